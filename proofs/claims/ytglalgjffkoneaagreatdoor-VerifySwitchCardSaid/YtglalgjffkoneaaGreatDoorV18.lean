/- Lemmas, put together: Vfe Vge Vwy Vch Vcx Vcy Vs2 Vs3. -/
import Derived.Test.YtglalgjffkoneaaGreatDoorV17
import Derived.Test.YtglalgjffkoneaaGreatDoorV10
/- field: a slot that is an object of a kind, and the type of a field that each shape of it must have. -/
namespace Go.Proofs.YtglalgjffkoneaaGreatDoor
set_option linter.unusedVariables false
set_option linter.unusedSimpArgs false
open Go.ChangeShapes Go.WideShapes Go.ChangeAt Go.RowKit
open Vf (K nth nth_nat tyAt atK isK numT oneT le beginK tsub RowK FitsK CalledK resT ObjK keepK KeepsK setK hasK)
set_option maxRecDepth 100000 in
set_option maxHeartbeats 8000000 in
theorem field1_any (c : WkC) (hW : wholeB c.m = true) {W : World} (hr : RowsAt c W) (hx7 : W.cell? ⟨c.X, 7, none⟩ = some (.slice (some ⟨c.r1, 0, none⟩) c.v.tn c.rc)) {Z Kk Kn Ka Kw : Nat} {fid : FuncId} {first cap : Array Value} {kind n : Int}
    (bk : Blk W Kk 3 #[.int .i64 kind]) (bn : Blk W Kn 3 #[.int .i64 n]) (ba : Blk W Ka 184 #[.func (.func fid) first cap]) (bw : Blk W Kw 55 #[.pointer (some ⟨c.X, 0, none⟩)])
    (hfid : ∀ args W, (callFunc fid args).run Tryz.prog W = .ok (.enter fid args) W) {S : Nat → Prop} {Q : Prop} {J : World → Prop} {s : Nat} {sh : M.Sh} (hs : c.m.shapes[s]? = some sh) (hSf : ∀ j, S j → c.L ≤ j ∧ j < Z) (hZ : Z ≤ Kk ∧ Z ≤ Kn ∧ Z ≤ Ka ∧ Z ≤ Kw) {fa : Option Addr} {fn fc : Nat} (hfi : Ints c.B W fa fn sh.fields) (hfn : fn ≤ maxLen)
    (hask : ∀ W' x b, Still W W' → sh.kind = kind → nth sh.fields n = some x → TyK W' b (tyAt c.m x) → b < c.L → Calls Tryz.prog fid (first.push (.pointer (some ⟨b, 0, none⟩)) ++ cap) W' (DoR S Q J W')) :
    Calls Tryz.prog 171 #[shV sh fa fn fc, .pointer (some ⟨Kk, 0, none⟩), .pointer (some ⟨Kn, 0, none⟩), .pointer (some ⟨Ka, 0, none⟩), .pointer (some ⟨Kw, 0, none⟩)] W (DoR S ((sh.kind = kind ∧ ∃ x, nth sh.fields n = some x) ∧ Q) J W) := by
  have HSF := Lib.hid (And.intro hSf hZ)
  have HASK := Lib.hid hask
  have HFID := Lib.hid hfid
  have HR := Lib.hid hr
  have HX7 := Lib.hid hx7
  have HFI := Lib.hid (And.intro hfi hfn)
  have HSH := Lib.hid hs
  have HWB := Lib.hid hW
  have HLEN : Hid (sh.fields.length = fn) := hfi.len
  have S1 : Hid (Still W (W.alloc (.cells #[.int .i64 sh.kind, .slice fa fn fc, .string sh.name] 42)) ∧ Blk (W.alloc (.cells #[.int .i64 sh.kind, .slice fa fn fc, .string sh.name] 42)) W.heap.size 42 #[.int .i64 sh.kind, .slice fa fn fc, .string sh.name]) := ⟨(Still.refl W).alloc _, Blk.new W _ _⟩
  have HB : Hid (Blk W Kk 3 #[.int .i64 kind] ∧ Blk W Kn 3 #[.int .i64 n] ∧ Blk W Ka 184 #[.func (.func fid) first cap] ∧ Blk W Kw 55 #[.pointer (some ⟨c.X, 0, none⟩)]) := ⟨bk, bn, ba, bw⟩
  have k0 := bk.cell 0
  have n0 := bn.cell 0
  have lk := bk.lt
  have lnn := bn.lt
  obtain ⟨sk, hsk⟩ : ∃ sk, sh.kind = sk := ⟨_, rfl⟩
  have HSK := Lib.hid hsk
  rw [hsk] at S1
  unfold shV
  rw [hsk]
  clear hSf hZ hask hr hx7 hfi hfn hs hW bk bn ba bw hsk
  go_enter Tryz.func171, Tryz.ntmps171
  by_cases hkk : sk = kind
  rotate_left
  · have hq : (sk == kind) = false := beq_eq_false_iff_ne.2 hkk
    go_wp2_with fail
    refine (need_no _).mono ?_; rintro e w2 ⟨rfl, hw2⟩; subst w2
    exact ⟨rfl, S1.out.1.turn, .inr ⟨fun e => hkk e.1.1, rfl⟩⟩
  subst hkk
  have hq : (sk == sk) = true := beq_self_eq_true sk
  go_wp2_with fail
  refine (hasInt_any _ _ _ _ _).mono ?_; rintro e w2 ⟨rfl, hw2⟩; subst w2
  cases hb : hasB n fn with
  | false =>
    have HN := nth_has HLEN.out hb
    go_wp2_with fail
    refine (need_no _).mono ?_; rintro e w2 ⟨rfl, hw2⟩; subst w2
    refine ⟨rfl, S1.out.1.turn, .inr ⟨fun e => ?_, rfl⟩⟩
    obtain ⟨x, hx⟩ := e.1.2
    rw [HN] at hx
    cases hx
  | true =>
    obtain ⟨h0, h1⟩ := (hasB_iff _ _).1 hb
    obtain ⟨j, rfl⟩ := Int.eq_ofNat_of_zero_le h0
    have hj : j < fn := by omega
    clear hb h0
    go_wp2_with fail
    refine (need_yes _).mono ?_; rintro e w2 ⟨rfl, hw2⟩; subst w2
    clear k0 n0 lk lnn hq
    obtain ⟨fb, fo, rfl, hfb, hfx⟩ := ints_cell HFI.out.1 (by omega)
    have hjl : j < sh.fields.length := by have := HLEN.out; omega
    have hxm : sh.fields[j]? = some (sh.fields.getD j 0) := by simp [List.getD, List.getElem?_eq_getElem hjl]
    have hf0 := hfx j hj
    obtain ⟨h0, h2⟩ := whole_fields HWB.out sh (List.mem_of_getElem? HSH.out) _ (List.mem_of_getElem? hxm)
    generalize sh.fields.getD j 0 = x at hxm hf0 h0 h2
    obtain ⟨q, rfl⟩ := Int.eq_ofNat_of_zero_le h0
    have hql : q < c.m.types.length := by omega
    obtain ⟨b, hbe⟩ : ∃ b, c.bs[q]? = some b := ⟨_, List.getElem?_eq_getElem (by have := HR.out.lb; omega)⟩
    obtain ⟨t, hte⟩ : ∃ t, c.m.types[q]? = some t := ⟨_, List.getElem?_eq_getElem hql⟩
    have HTE : Hid (tyAt c.m (q : Int) = t ∧ nth sh.fields (j : Int) = some (q : Int)) := ⟨by unfold tyAt; rw [nth_nat, hte]; rfl, by rw [nth_nat]; exact hxm⟩
    obtain ⟨Ks, hKs⟩ : ∃ Ks, W.heap.size = Ks := ⟨_, rfl⟩
    obtain ⟨W1, hW1⟩ : ∃ W1, W.alloc (.cells #[.int .i64 sk, .slice (some ⟨fb, fo, none⟩) fn fc, .string sh.name] 42) = W1 := ⟨_, rfl⟩
    rw [hKs, hW1] at S1
    rw [hKs, hW1]
    have HKS := Lib.hid hKs
    clear hKs hW1
    obtain ⟨wD, hwD⟩ : ∃ wD, W1.drew = wD := ⟨_, rfl⟩
    have SD : Hid (Still W wD) := by rw [← hwD]; exact S1.out.1.drew
    have SS : Hid (Blk wD Ks 42 #[.int .i64 sk, .slice (some ⟨fb, fo, none⟩) fn fc, .string sh.name]) := by rw [← hwD]; exact Still.blk (show Still W1 W1.drew from (Still.refl W1).drew) S1.out.2
    have HRD := Lib.hid (HR.out.keep SD.out (fun j e => e.elim))
    have HTY : Hid (TyK wD b (tyAt c.m (q : Int)) ∧ b < c.L) := ⟨by rw [HTE.out.1]; exact ⟨HRD.out.wt q b t hbe hte, HRD.out.ok t (List.mem_of_getElem? hte)⟩, (HRD.out.lbs b (List.mem_of_getElem? hbe)).1⟩
    obtain ⟨X, hX⟩ : ∃ X, c.X = X := ⟨_, rfl⟩
    have HX := Lib.hid hX
    obtain ⟨r1, hr1⟩ : ∃ r1, c.r1 = r1 := ⟨_, rfl⟩
    have HR1 := Lib.hid hr1
    obtain ⟨tn, htn⟩ : ∃ tn, c.v.tn = tn := ⟨_, rfl⟩
    obtain ⟨rc, hrc⟩ : ∃ rc, c.rc = rc := ⟨_, rfl⟩
    have hqi : (q : Int) < (tn : Int) := by have h1 := HR.out.img.types.len; omega
    have hle := HR.out.le
    have hXl : c.X < W.heap.size := by omega
    have hl1 := HR.out.l1
    have hfbl : fb < W.heap.size := by omega
    have hS0 : wD.cell? ⟨Ka, 0, none⟩ = some (.func (.func fid) first cap) ∧ wD.cell? ⟨Kw, 0, none⟩ = some (.pointer (some ⟨X, 0, none⟩)) ∧ wD.cell? ⟨X, 7, none⟩ = some (.slice (some ⟨r1, 0, none⟩) tn rc) ∧ wD.cell? ⟨Ks, 1, none⟩ = some (.slice (some ⟨fb, fo, none⟩) fn fc) ∧ wD.cell? ⟨Kn, 0, none⟩ = some (.int .i64 (j : Int)) ∧ wD.cell? ⟨fb, fo + j, none⟩ = some (.int .i64 (q : Int)) ∧ wD.cell? ⟨r1, q, none⟩ = some (.pointer (some ⟨b, 0, none⟩)) := ⟨(SD.out.blk HB.out.2.2.1).cell 0, by rw [← hX]; exact (SD.out.blk HB.out.2.2.2).cell 0, by rw [← hX, ← hr1, ← htn, ← hrc]; exact (SD.out.cell (p := ⟨c.X, 7, none⟩) hXl).trans HX7.out, SS.out.cell 1, (SD.out.blk HB.out.2.1).cell 0, (SD.out.cell (p := ⟨fb, fo + j, none⟩) hfbl).trans hf0, by rw [← hr1]; exact HRD.out.rt q b hbe⟩
    have HLT : Hid (X < W.heap.size ∧ fb < c.L ∧ r1 < c.L) := ⟨by omega, by omega, by omega⟩
    have HCALL := Lib.hid (HASK.out wD (q : Int) b SD.out HSK.out HTE.out.2 HTY.out.1 HTY.out.2)
    clear hxm hf0 h0 h2 hql hbe hte hX hr1 htn hrc hle hXl hl1 hfbl hjl hfx
    have hfid := HFID.out
    have hji : (j : Int) < (fn : Int) := by omega
    go_wp2_with fail
    refine wp_region_held_drew (S := fun W => W.cell? ⟨Ka, 0, none⟩ = some (.func (.func fid) first cap) ∧ W.cell? ⟨Kw, 0, none⟩ = some (.pointer (some ⟨X, 0, none⟩)) ∧ W.cell? ⟨X, 7, none⟩ = some (.slice (some ⟨r1, 0, none⟩) tn rc) ∧ W.cell? ⟨Ks, 1, none⟩ = some (.slice (some ⟨fb, fo, none⟩) fn fc) ∧ W.cell? ⟨Kn, 0, none⟩ = some (.int .i64 (j : Int)) ∧ W.cell? ⟨fb, fo + j, none⟩ = some (.int .i64 (q : Int)) ∧ W.cell? ⟨r1, q, none⟩ = some (.pointer (some ⟨b, 0, none⟩))) (by kernel_rfl) (by rw [hwD]; exact hS0) (fun hHeld => ?_)
    try simp only [Act.put, List.getElem_toArray, List.getElem_cons_succ, List.getElem_cons_zero, List.setIfInBounds_toArray, List.set_cons_zero, List.set_cons_succ]
    rw [hwD] at hHeld ⊢
    clear hwD hS0
    refine wpAnyH_take (i := 0) (v := ?_) rfl (by kernel_rfl) (by kernel_rfl) (by kernel_rfl) (fun _ _ _ h => h) (Or.inl ⟨by rfl, ?_⟩) (by assumption) ?_
    rotate_left
    · intro w hSw; (try dsimp only at hSw); go_simp; try with_reducible rfl
    try simp only [Act.put, List.getElem_toArray, List.getElem_cons_succ, List.getElem_cons_zero, List.setIfInBounds_toArray, List.set_cons_zero, List.set_cons_succ]
    refine wpAnyH_take (i := 1) (v := ?_) rfl (by kernel_rfl) (by kernel_rfl) (by kernel_rfl) (fun _ _ _ h => h) (Or.inl ⟨by rfl, ?_⟩) (by assumption) ?_
    rotate_left
    · intro w hSw; (try dsimp only at hSw); go_simp; try with_reducible rfl
    try simp only [Act.put, List.getElem_toArray, List.getElem_cons_succ, List.getElem_cons_zero, List.setIfInBounds_toArray, List.set_cons_zero, List.set_cons_succ]
    refine wpAnyH_take (i := 2) (v := ?_) rfl (by kernel_rfl) (by kernel_rfl) (by kernel_rfl) (fun _ _ _ h => h) (Or.inl ⟨by rfl, ?_⟩) (by assumption) ?_
    rotate_left
    · intro w hSw; (try dsimp only at hSw); go_simp; try with_reducible rfl
    try simp only [Act.put, List.getElem_toArray, List.getElem_cons_succ, List.getElem_cons_zero, List.setIfInBounds_toArray, List.set_cons_zero, List.set_cons_succ]
    refine wpAnyH_take (i := 3) (v := ?_) rfl (by kernel_rfl) (by kernel_rfl) (by kernel_rfl) (fun _ _ _ h => h) (Or.inl ⟨by rfl, ?_⟩) (by assumption) ?_
    rotate_left
    · intro w hSw; (try dsimp only at hSw); go_simp; try with_reducible rfl
    try simp only [Act.put, List.getElem_toArray, List.getElem_cons_succ, List.getElem_cons_zero, List.setIfInBounds_toArray, List.set_cons_zero, List.set_cons_succ]
    refine wpAnyH_take (i := 4) (v := ?_) rfl (by kernel_rfl) (by kernel_rfl) (by kernel_rfl) (fun _ _ _ h => h) (Or.inl ⟨by rfl, ?_⟩) (by assumption) ?_
    rotate_left
    · intro w hSw; (try dsimp only at hSw); go_simp; try with_reducible rfl
    try simp only [Act.put, List.getElem_toArray, List.getElem_cons_succ, List.getElem_cons_zero, List.setIfInBounds_toArray, List.set_cons_zero, List.set_cons_succ]
    refine wpAnyH_take (i := 5) (v := ?_) rfl (by kernel_rfl) (by kernel_rfl) (by kernel_rfl) (fun _ _ _ h => h) (Or.inl ⟨by rfl, ?_⟩) (by assumption) ?_
    rotate_left
    · intro w hSw; (try dsimp only at hSw); go_simp; try with_reducible rfl
    try simp only [Act.put, List.getElem_toArray, List.getElem_cons_succ, List.getElem_cons_zero, List.setIfInBounds_toArray, List.set_cons_zero, List.set_cons_succ]
    refine wpAnyH_take (i := 6) (v := ?_) rfl (by kernel_rfl) (by kernel_rfl) (by kernel_rfl) (fun _ _ _ h => h) (Or.inl ⟨by rfl, ?_⟩) (by assumption) ?_
    rotate_left
    · intro w hSw; (try dsimp only at hSw); go_simp; try with_reducible rfl
    try simp only [Act.put, List.getElem_toArray, List.getElem_cons_succ, List.getElem_cons_zero, List.setIfInBounds_toArray, List.set_cons_zero, List.set_cons_succ]
    refine wpAnyH_take (i := 7) (v := ?_) rfl (by kernel_rfl) (by kernel_rfl) (by kernel_rfl) (fun _ _ _ h => h) (Or.inl ⟨by rfl, ?_⟩) (by assumption) ?_
    rotate_left
    · intro w hSw; (try dsimp only at hSw); go_simp; try with_reducible rfl
    try simp only [Act.put, List.getElem_toArray, List.getElem_cons_succ, List.getElem_cons_zero, List.setIfInBounds_toArray, List.set_cons_zero, List.set_cons_succ]
    refine wpAnyH_take (i := 8) (v := ?_) rfl (by kernel_rfl) (by kernel_rfl) (by kernel_rfl) (fun _ _ _ h => h) (Or.inl ⟨by rfl, ?_⟩) (by assumption) ?_
    rotate_left
    · intro w hSw; (try dsimp only at hSw); go_simp; try with_reducible rfl
    try simp only [Act.put, List.getElem_toArray, List.getElem_cons_succ, List.getElem_cons_zero, List.setIfInBounds_toArray, List.set_cons_zero, List.set_cons_succ]
    refine wpAnyH_take (i := 9) (v := ?_) rfl (by kernel_rfl) (by kernel_rfl) (by kernel_rfl) (fun _ _ _ h => h) (Or.inl ⟨by rfl, ?_⟩) (by assumption) ?_
    rotate_left
    · intro w hSw; (try dsimp only at hSw); go_simp; try with_reducible rfl
    try simp only [Act.put, List.getElem_toArray, List.getElem_cons_succ, List.getElem_cons_zero, List.setIfInBounds_toArray, List.set_cons_zero, List.set_cons_succ]
    refine wpAnyH_take (i := 10) (v := ?_) rfl (by kernel_rfl) (by kernel_rfl) (by kernel_rfl) (fun _ _ _ h => h) (Or.inl ⟨by rfl, ?_⟩) (by assumption) ?_
    rotate_left
    · intro w hSw; (try dsimp only at hSw); go_simp; try with_reducible rfl
    try simp only [Act.put, List.getElem_toArray, List.getElem_cons_succ, List.getElem_cons_zero, List.setIfInBounds_toArray, List.set_cons_zero, List.set_cons_succ]
    refine wpAnyH_take (i := 11) (v := ?_) rfl (by kernel_rfl) (by kernel_rfl) (by kernel_rfl) (fun _ _ _ h => h) (Or.inl ⟨by rfl, ?_⟩) (by assumption) ?_
    rotate_left
    · intro w hSw; (try dsimp only at hSw); go_simp; try with_reducible rfl
    try simp only [Act.put, List.getElem_toArray, List.getElem_cons_succ, List.getElem_cons_zero, List.setIfInBounds_toArray, List.set_cons_zero, List.set_cons_succ]
    refine wpAnyH_ready (rs := [12]) (by kernel_rfl) (by simp) ?_
    refine AllReadyH.cons rfl (fun K hK => ?_) AllReadyH.nil
    go_simp
    refine HCALL.out.mono ?_; rintro e w5 ⟨t5, ⟨hq, rfl, hj5⟩ | ⟨hq, rfl⟩⟩
    rotate_left
    · exact ⟨rfl, SD.out.turn.trans t5, .inr ⟨fun e => hq e.2, rfl⟩⟩
    have hf := HSF.out.1
    have hz := HSF.out.2
    have hsz := SD.out.size
    have hlt := HLT.out
    have hle := HR.out.le
    have hX := HX.out
    have hks := HKS.out
    have hnS : ∀ {j : Nat}, (Z ≤ j ∨ j < c.L) → ¬ S j := fun {j} h e => by have := hf j e; omega
    have hzw : Z ≤ W.heap.size := by have := HB.out.2.1.lt; omega
    have hH5 : w5.cell? ⟨Ka, 0, none⟩ = some (.func (.func fid) first cap) ∧ w5.cell? ⟨Kw, 0, none⟩ = some (.pointer (some ⟨X, 0, none⟩)) ∧ w5.cell? ⟨X, 7, none⟩ = some (.slice (some ⟨r1, 0, none⟩) tn rc) ∧ w5.cell? ⟨Ks, 1, none⟩ = some (.slice (some ⟨fb, fo, none⟩) fn fc) ∧ w5.cell? ⟨Kn, 0, none⟩ = some (.int .i64 (j : Int)) ∧ w5.cell? ⟨fb, fo + j, none⟩ = some (.int .i64 (q : Int)) ∧ w5.cell? ⟨r1, q, none⟩ = some (.pointer (some ⟨b, 0, none⟩)) := ⟨(t5.cell (p := ⟨Ka, 0, none⟩) (SD.out.blk HB.out.2.2.1).lt (hnS (.inl hz.2.2.1))).trans hHeld.1, (t5.cell (p := ⟨Kw, 0, none⟩) (SD.out.blk HB.out.2.2.2).lt (hnS (.inl hz.2.2.2))).trans hHeld.2.1, (t5.cell (p := ⟨X, 7, none⟩) (by show X < _; omega) (hnS (.inr (by show X < _; omega)))).trans hHeld.2.2.1, (t5.cell (p := ⟨Ks, 1, none⟩) SS.out.lt (hnS (.inl (by show Z ≤ Ks; omega)))).trans hHeld.2.2.2.1, (t5.cell (p := ⟨Kn, 0, none⟩) (SD.out.blk HB.out.2.1).lt (hnS (.inl hz.2.1))).trans hHeld.2.2.2.2.1, (t5.cell (p := ⟨fb, fo + j, none⟩) (by show fb < _; omega) (hnS (.inr hlt.2.1))).trans hHeld.2.2.2.2.2.1, (t5.cell (p := ⟨r1, q, none⟩) (by show r1 < _; omega) (hnS (.inr hlt.2.2))).trans hHeld.2.2.2.2.2.2⟩
    have HJ := Lib.hid (And.intro hq (And.intro hj5 t5))
    clear hq hj5 t5 hHeld hf hz hsz hlt hle hX hks hnS hzw
    refine hK.out _ _ hH5 (fun hHeld => ?_)
    clear hK K hH5
    refine wpAnyH_done (by kernel_rfl) ?_ _
    clear hHeld
    go_wp2_with fail
    go_end0
    exact ⟨SD.out.turn.trans HJ.out.2.2, .inl ⟨⟨⟨_, HTE.out.2⟩, HJ.out.1⟩, rfl, HJ.out.2.1⟩⟩
set_option maxRecDepth 100000 in
set_option maxHeartbeats 8000000 in
theorem field_any (c : WkC) (hW : wholeB c.m = true) {w : World} {f : M.Fn} {g : FV} {fi bi ii : Int} {N r T Y : Nat} {l : List (Option Nat)} {k : K} (h : WkAt c w f g fi bi ii N r T Y l k) (slot kind n : Int) (fid : FuncId) (first cap : Array Value) (hfid : ∀ args W, (callFunc fid args).run Tryz.prog W = .ok (.enter fid args) W) (S : Nat → Prop) (Q : Nat → Prop) (J : List Nat → World → Prop)
    (hS : ∀ j, S j → c.L ≤ j ∧ j < w.heap.size ∧ (∀ i, slotAt l i ≠ some j))
    (hJ : ∀ p W W', J p W → Still W W' → J p W') (h0 : J [] w)
    (hask : ∀ (p : List Nat) (s : Nat) (sh : M.Sh) (x : Int) (b : Nat) (W : World), c.m.shapes[s]? = some sh → sh.kind = kind → nth sh.fields n = some x → Turn S w W → J p W → TyK W b (tyAt c.m x) → b < c.L → Calls Tryz.prog fid (first.push (.pointer (some ⟨b, 0, none⟩)) ++ cap) W (DoR S (Q s) (J (p ++ [s])) W)) :
    Calls Tryz.prog 164 #[.pointer (some ⟨c.X, 0, none⟩), .int .i64 slot, .int .i64 kind, .int .i64 n, .func (.func fid) first cap] w (ObjR S k slot (fun s => Vf.hasF c.m kind n s ∧ Q s) J w) := by
  obtain ⟨X, hX⟩ : ∃ X, c.X = X := ⟨_, rfl⟩
  have HX := Lib.hid hX
  have z1 : (w.alloc (.cells #[.pointer (some ⟨X, 0, none⟩)] 55)).heap.size = w.heap.size + 1 := by simp
  have z2 : ((w.alloc (.cells #[.pointer (some ⟨X, 0, none⟩)] 55)).alloc (.cells #[.int .i64 kind] 3)).heap.size = w.heap.size + 1 + 1 := by simp
  have z3 : (((w.alloc (.cells #[.pointer (some ⟨X, 0, none⟩)] 55)).alloc (.cells #[.int .i64 kind] 3)).alloc (.cells #[.int .i64 n] 3)).heap.size = w.heap.size + 1 + 1 + 1 := by simp
  have S1 : Hid (Still w ((((w.alloc (.cells #[.pointer (some ⟨X, 0, none⟩)] 55)).alloc (.cells #[.int .i64 kind] 3)).alloc (.cells #[.int .i64 n] 3)).alloc (.cells #[.func (.func fid) first cap] 184)) ∧ Blk ((((w.alloc (.cells #[.pointer (some ⟨X, 0, none⟩)] 55)).alloc (.cells #[.int .i64 kind] 3)).alloc (.cells #[.int .i64 n] 3)).alloc (.cells #[.func (.func fid) first cap] 184)) w.heap.size 55 #[.pointer (some ⟨X, 0, none⟩)] ∧ Blk ((((w.alloc (.cells #[.pointer (some ⟨X, 0, none⟩)] 55)).alloc (.cells #[.int .i64 kind] 3)).alloc (.cells #[.int .i64 n] 3)).alloc (.cells #[.func (.func fid) first cap] 184)) (w.heap.size + 1) 3 #[.int .i64 kind] ∧ Blk ((((w.alloc (.cells #[.pointer (some ⟨X, 0, none⟩)] 55)).alloc (.cells #[.int .i64 kind] 3)).alloc (.cells #[.int .i64 n] 3)).alloc (.cells #[.func (.func fid) first cap] 184)) (w.heap.size + 1 + 1) 3 #[.int .i64 n] ∧ Blk ((((w.alloc (.cells #[.pointer (some ⟨X, 0, none⟩)] 55)).alloc (.cells #[.int .i64 kind] 3)).alloc (.cells #[.int .i64 n] 3)).alloc (.cells #[.func (.func fid) first cap] 184)) (w.heap.size + 1 + 1 + 1) 184 #[.func (.func fid) first cap]) :=
    ⟨((((Still.refl w).alloc _).alloc _).alloc _).alloc _, (((Blk.new w _ _).alloc _).alloc _).alloc _, ((blk_at' z1).alloc _).alloc _, (blk_at' z2).alloc _, blk_at' z3⟩
  have HE1 : Hid (∀ (args : Array Value) (W : World), (callFunc 171 args).run Tryz.prog W = .ok (.enter 171 args) W) := enters_of Tryz.func171 (by kernel_rfl) rfl
  have HOB := Lib.hid (object_any c (h.still S1.out.1) slot 171 #[] #[.pointer (some ⟨w.heap.size + 1, 0, none⟩), .pointer (some ⟨w.heap.size + 1 + 1, 0, none⟩), .pointer (some ⟨w.heap.size + 1 + 1 + 1, 0, none⟩), .pointer (some ⟨w.heap.size, 0, none⟩)] HE1.out S (fun s => Vf.hasF c.m kind n s ∧ Q s) J (fun j e => ⟨(hS j e).1, Nat.lt_of_lt_of_le (hS j e).2.1 S1.out.1.size, (hS j e).2.2⟩) hJ (hJ _ _ _ h0 S1.out.1) (fun p s sh W hsh t hj fa fn fc hfi hfn => by
    have hXS : ¬ S c.X := fun e => by have h1 := (hS _ e).1; have h2 := h.rows.le; omega
    have hSZ : ∀ j, S j → c.L ≤ j ∧ j < w.heap.size := fun j e => ⟨(hS j e).1, (hS j e).2.1⟩
    have hnS : ∀ {j : Nat}, w.heap.size ≤ j → ¬ S j := fun {j} h e => by have := (hS j e).2.1; omega
    have hr := (h.still S1.out.1).rows.keep t (fun j e => .inr (hS j e).1)
    have hx7 : W.cell? ⟨c.X, 7, none⟩ = some (.slice (some ⟨c.r1, 0, none⟩) c.v.tn c.rc) := (t.cell (p := ⟨c.X, 7, none⟩) (h.still S1.out.1).box.lt hXS).trans ((h.still S1.out.1).box.cell 7)
    have hsa : Vf.shAt c.m (s : Int) = sh := by unfold Vf.shAt; rw [nth_nat, hsh]; rfl
    refine (field1_any c hW (S := S) (Q := Q s) (J := J (p ++ [s])) hr hx7 (Z := w.heap.size) (S1.out.2.2.1.keep t (hnS (by omega))) (S1.out.2.2.2.1.keep t (hnS (by omega))) (S1.out.2.2.2.2.keep t (hnS (by omega))) (by rw [HX.out]; exact S1.out.2.1.keep t (hnS (Nat.le_refl _))) hfid hsh hSZ ⟨by omega, by omega, by omega, Nat.le_refl _⟩ hfi hfn
      (fun W' x b st hk hx hb hl => hask p s sh x b W' hsh hk hx ((S1.out.1.turn.trans t).trans st.turn) (hJ _ _ _ hj st) hb hl)).mono ?_
    rintro e w' ⟨t', hd⟩
    refine ⟨t', ?_⟩
    unfold Vf.hasF
    rw [hsa]
    exact hd))
  rw [hX] at HOB ⊢
  have hmf : ∀ (fn : Fn) (first cap : Array Value) (w : World), (Instr.makeFunc fn first cap).run Tryz.prog w = .ok (.func fn first cap) w := fun _ _ _ _ => rfl
  have lX : X < w.heap.size := by rw [← hX]; exact h.box.lt
  clear h hS hJ h0 hask hfid hX z1 z2 z3
  go_enter Tryz.func164, Tryz.ntmps164
  go_wp2_with fail
  refine HOB.out.mono ?_; rintro e w5 ⟨t5, ⟨t, p, h1, h2, h3, h4, h5, rfl, h6⟩ | ⟨hno, rfl⟩⟩
  · have H5 := Lib.hid (And.intro (S1.out.1.turn.trans t5) (And.intro h1 (And.intro h2 (And.intro h3 (And.intro h4 (And.intro h5 h6))))))
    clear t5 h1 h2 h3 h4 h5 h6
    go_wp2_with fail
    go_end0
    exact ⟨H5.out.1, .inl ⟨t, p, H5.out.2.1, H5.out.2.2.1, H5.out.2.2.2.1, H5.out.2.2.2.2.1, H5.out.2.2.2.2.2.1, rfl, H5.out.2.2.2.2.2.2⟩⟩
  · exact ⟨rfl, S1.out.1.turn.trans t5, .inr ⟨hno, rfl⟩⟩
end Go.Proofs.YtglalgjffkoneaaGreatDoor
/- get: D is all that a field may be. -/
namespace Go.Proofs.YtglalgjffkoneaaGreatDoor
set_option linter.unusedVariables false
set_option linter.unusedSimpArgs false
open Go.ChangeShapes Go.WideShapes Go.ChangeAt Go.RowKit
open Vf (K nth nth_nat tyAt atK isK numT oneT le beginK tsub RowK FitsK CalledK resT ObjK keepK KeepsK setK hasK)
open Vf (allT fieldT joinT hasF joinL)
theorem ok_ofL (xs : List Int) : Vf.ok (ofL xs) := by
  unfold ofL
  have gen : ∀ (xs : List Int) (R : Nat → Nat), Vf.ok R → Vf.ok (xs.foldl (fun R s => Vf.add1 R s.toNat) R) := fun xs => by
    induction xs with
    | nil => exact fun _ h => h
    | cons s xs ih => intro R h; exact ih _ (Vf.ok_add1 h _)
  exact gen xs _ fun i => by show 0 < 2 ^ 64; decide
theorem rows_ext {R T : Nat → Nat} (hr : Vf.ok R) (ht : Vf.ok T) (h : ∀ x, Vf.has R x = Vf.has T x) : R = T := by
  funext i
  apply Nat.eq_of_testBit_eq
  intro j
  by_cases hj : j < 64
  · have h1 := h (i * 64 + j)
    unfold Vf.has at h1
    rwa [show (i * 64 + j) / 64 = i by omega, show (i * 64 + j) % 64 = j by omega] at h1
  · rw [Nat.testBit_lt_two_pow (Nat.lt_of_lt_of_le (hr i) (Nat.pow_le_pow_right (by decide) (by omega))), Nat.testBit_lt_two_pow (Nat.lt_of_lt_of_le (ht i) (Nat.pow_le_pow_right (by decide) (by omega)))]
theorem ofL_both {a b : List Int} (ha : ∀ s ∈ a, 0 ≤ s) (hb : ∀ s ∈ b, 0 ≤ s) : Vf.both (ofL a) (ofL b) = ofL (joinL (a ++ b)) := by
  refine rows_ext (Vf.ok_both (ok_ofL _) (ok_ofL _)) (ok_ofL _) fun x => ?_
  have hj : ∀ s ∈ joinL (a ++ b), 0 ≤ s := fun s hs => by
    rw [(Vf.joinL_spec _).2, List.mem_append] at hs
    exact hs.elim (ha s) (hb s)
  rw [Vf.has_both, Bool.eq_iff_iff, Bool.or_eq_true, ofL_mem ha, ofL_mem hb, ofL_mem hj, (Vf.joinL_spec _).2, List.mem_append]
theorem allT_snoc (m : M.Img) (n : Int) (p : List Int) (s : Int) : allT m n (p ++ [s]) = joinT (allT m n p) (fieldT m n s) := by
  unfold Vf.allT
  rw [List.foldl_append]
  rfl
theorem allT_spec (m : M.Img) (n : Int) : ∀ (ss : List Int), ((allT m n ss).imm = true ↔ ∃ s ∈ ss, (fieldT m n s).imm = true) ∧ Vf.Strict (allT m n ss).shapes ∧ ∀ y, y ∈ (allT m n ss).shapes ↔ ∃ s ∈ ss, y ∈ (fieldT m n s).shapes := by
  have gen : ∀ (ss : List Int) (t : M.Ty), Vf.Strict t.shapes → ((ss.foldl (fun t s => joinT t (fieldT m n s)) t).imm = true ↔ t.imm = true ∨ ∃ s ∈ ss, (fieldT m n s).imm = true) ∧ Vf.Strict (ss.foldl (fun t s => joinT t (fieldT m n s)) t).shapes ∧ ∀ y, y ∈ (ss.foldl (fun t s => joinT t (fieldT m n s)) t).shapes ↔ y ∈ t.shapes ∨ ∃ s ∈ ss, y ∈ (fieldT m n s).shapes := fun ss => by
    induction ss with
    | nil => intro t h; exact ⟨by simp, h, by simp⟩
    | cons s ss ih =>
      intro t h
      have hj := Vf.joinL_spec (t.shapes ++ (fieldT m n s).shapes)
      obtain ⟨i1, i2, i3⟩ := ih (joinT t (fieldT m n s)) hj.1
      refine ⟨?_, i2, fun y => ?_⟩
      · rw [List.foldl_cons, i1]
        show (t.imm || (fieldT m n s).imm) = true ∨ _ ↔ _
        rw [Bool.or_eq_true]
        simp [or_assoc]
      · rw [List.foldl_cons, i3]
        show y ∈ joinL (t.shapes ++ (fieldT m n s).shapes) ∨ _ ↔ _
        rw [hj.2, List.mem_append]
        simp [or_assoc]
  intro ss
  obtain ⟨h1, h2, h3⟩ := gen ss ⟨false, []⟩ (by unfold Vf.Strict; trivial)
  unfold Vf.allT
  exact ⟨by rw [h1]; simp, h2, fun y => by rw [h3 y]; simp⟩
theorem allT_set {m : M.Img} {n : Int} {a b : List Int} (h : ∀ s, s ∈ a ↔ s ∈ b) : allT m n a = allT m n b := by
  obtain ⟨a1, a2, a3⟩ := allT_spec m n a
  obtain ⟨b1, b2, b3⟩ := allT_spec m n b
  have e1 : (allT m n a).imm = (allT m n b).imm := by
    rw [Bool.eq_iff_iff, a1, b1]
    exact exists_congr fun s => and_congr_left fun _ => h s
  have e2 : (allT m n a).shapes = (allT m n b).shapes := Vf.strict_unique a2 b2 fun y => by
    rw [a3, b3]
    exact exists_congr fun s => and_congr_left fun _ => h s
  cases ha : allT m n a with
  | mk ai as1 =>
    cases hb : allT m n b with
    | mk bi bs1 =>
      rw [ha, hb] at e1 e2
      dsimp only at e1 e2
      rw [e1, e2]
theorem objK_nat {m : M.Img} {k : K} (hin : InK m k) {i : Int} {P : Nat → Prop} {R : Int → Prop} (h : ∀ n : Nat, P n ↔ R n) : ObjK k i (fun s => P s.toNat) ↔ ObjK k i R := by
  unfold Vf.ObjK
  refine exists_congr fun t => and_congr_right fun ht => and_congr_right fun _ => and_congr_right fun _ => forall_congr' fun s => forall_congr' fun hs => ?_
  obtain ⟨j, rfl⟩ := Int.eq_ofNat_of_zero_le (hin.at ht s hs).1
  exact h j
theorem Kn.lt {w : World} {l : List (Option Nat)} {k : K} (h : Kn w l k) {i : Int} {b : Nat} (e : slotAt l i = some b) : b < w.heap.size := by
  rcases h.slot i with ⟨e1, _⟩ | ⟨b', t, e1, _, e3⟩
  · rw [e1] at e; cases e
  · rw [e1] at e
    obtain rfl := Option.some.inj e
    exact e3.1.blk.lt
def GetR (c : WkC) (N r : Nat) (k : K) (d slot kind n : Int) (w : World) (e : Ending) (w' : World) : Prop :=
  ((ObjK k slot (hasF c.m kind n) ∧ hasK k d) ∧ e = .returned (.tuple #[]) ∧ (∃ l', NowAt w' N r l' ∧ Kn w' l' (setK k d (allT c.m n ((atK k slot).getD numT).shapes))) ∧ Turn (fun j => j = N ∨ j = r) w w') ∨ (¬ (ObjK k slot (hasF c.m kind n) ∧ hasK k d) ∧ e = .panicked [{ v := wrongV, recovered := false }] ∧ Turn (fun j => j = N ∨ j = r) w w')
set_option maxRecDepth 100000 in
set_option maxHeartbeats 8000000 in
theorem get_any (c : WkC) (hW : wholeB c.m = true) {w : World} {f : M.Fn} {g : FV} {fi bi ii : Int} {N r T Y : Nat} {l : List (Option Nat)} {k : K} (h : WkAt c w f g fi bi ii N r T Y l k) (d slot kind n : Int) :
    Calls Tryz.prog 137 #[.pointer (some ⟨c.X, 0, none⟩), .int .i64 d, .int .i64 slot, .int .i64 kind, .int .i64 n] w (GetR c N r k d slot kind n w) := by
  have HH := Lib.hid h
  obtain ⟨X, hX⟩ : ∃ X, c.X = X := ⟨_, rfl⟩
  have HX := Lib.hid hX
  obtain ⟨A, hA⟩ : ∃ A, w.heap.size = A := ⟨_, rfl⟩
  have HA := Lib.hid hA
  have S1 : Hid (Still w (w.alloc (.cells #[.bool false, .int .u64 0, .int .u64 0, .int .u64 0, .int .u64 0, .int .u64 0, .int .u64 0, .int .u64 0, .int .u64 0] 106)) ∧ WordsAt (w.alloc (.cells #[.bool false, .int .u64 0, .int .u64 0, .int .u64 0, .int .u64 0, .int .u64 0, .int .u64 0, .int .u64 0, .int .u64 0] 106)) A false Vf.zero) := by
    refine ⟨(Still.refl w).alloc _, ⟨?_, fun i => by show 0 < 2 ^ 64; decide⟩⟩
    have := Blk.new w 106 (wcells false Vf.zero)
    rw [hA] at this
    exact this
  have HE1 : Hid (∀ (args : Array Value) (W : World), (callFunc 162 args).run Tryz.prog W = .ok (.enter 162 args) W) := enters_of Tryz.func162 (by kernel_rfl) rfl
  have hnn : ∀ p : List Int, ∀ s ∈ (allT c.m n p).shapes, 0 ≤ s ∧ s < c.m.shapes.length := fun p => h.rows.inM.all n p
  have HFE := Lib.hid (field_any c hW (h.still S1.out.1) slot kind n 162 #[.pointer (some ⟨A, 0, none⟩)] #[] HE1.out (fun j => j = A) (fun _ => True) (fun p W => WordsAt W A (allT c.m n (p.map Int.ofNat)).imm (ofL (allT c.m n (p.map Int.ofNat)).shapes))
    (fun j e => by
      have h1 := h.rows.le
      have h2 := S1.out.2.blk.lt
      refine ⟨by omega, by omega, fun i e2 => ?_⟩
      have := h.kn.lt e2
      omega)
    (fun p W W' h1 st => h1.keep st (fun e => e))
    (by show WordsAt _ _ false Vf.zero; exact S1.out.2)
    (fun p s sh x b W hsh hk hx t hj hb hl => by
      have hbA : A ≠ b := by have h1 := h.rows.le; omega
      refine (add_any hj hb.1 hbA).mono ?_
      rintro e w' ⟨e1, e2, e3⟩
      refine ⟨e3, .inl ⟨trivial, e1, ?_⟩⟩
      have hft : fieldT c.m n (s : Int) = tyAt c.m x := by
        unfold Vf.fieldT Vf.shAt
        rw [nth_nat, hsh]
        show tyAt c.m ((nth sh.fields n).getD 0) = _
        rw [hx]
        rfl
      have hsn : allT c.m n ((p ++ [s]).map Int.ofNat) = joinT (allT c.m n (p.map Int.ofNat)) (tyAt c.m x) := by
        rw [List.map_append]
        show allT c.m n (p.map Int.ofNat ++ [(s : Int)]) = _
        rw [allT_snoc, hft]
      rw [hsn]
      show WordsAt w' A ((allT c.m n (p.map Int.ofNat)).imm || (tyAt c.m x).imm) (ofL (joinL ((allT c.m n (p.map Int.ofNat)).shapes ++ (tyAt c.m x).shapes)))
      rw [← ofL_both (fun y hy => (hnn _ y hy).1) (fun y hy => (hb.2 y hy).1)]
      exact e2))
  rw [hX] at HFE ⊢
  have hmf : ∀ (fn : Fn) (first cap : Array Value) (w : World), (Instr.makeFunc fn first cap).run Tryz.prog w = .ok (.func fn first cap) w := fun _ _ _ _ => rfl
  clear h hX hnn hW
  go_enter Tryz.func137, Tryz.ntmps137
  go_wp2_with fail
  clear hA
  refine HFE.out.mono ?_; rintro e w5 ⟨t5, ⟨t, p, h1, h2, h3, h4, h5, rfl, h6⟩ | ⟨hno, rfl⟩⟩
  rotate_left
  · refine ⟨rfl, .inr ⟨fun e => hno ?_, rfl, (S1.out.1.turn.trans (t5.mono fun j _ e => .inr (Nat.le_of_eq (HA.out.trans e.symm)))).mono (S := fun j => False ∨ w.heap.size ≤ j) fun j hj e => e.elim False.elim fun e => by omega⟩⟩
    exact (objK_nat (m := c.m) HH.out.inK (P := fun s => hasF c.m kind n s ∧ True) (R := hasF c.m kind n) fun y => by simp).2 e.1
  have HO : Hid (ObjK k slot (hasF c.m kind n)) := (objK_nat (m := c.m) HH.out.inK (P := fun s => hasF c.m kind n s ∧ True) (R := hasF c.m kind n) fun y => by simp).1 ⟨t, h1, h2, h3, h5⟩
  have HT : Hid (atK k slot = some t ∧ TyK w5 A (allT c.m n t.shapes) ∧ Turn (fun j => w.heap.size ≤ j) w w5) := by
    refine ⟨h1, ?_, S1.out.1.turn.trans (t5.mono fun j _ e => by have := HA.out; have e2 : j = A := e; show _ ≤ _; omega)⟩
    have he : allT c.m n (p.map Int.ofNat) = allT c.m n t.shapes := allT_set fun s => by
      constructor
      · intro hs
        obtain ⟨y, hy, rfl⟩ := List.mem_map.1 hs
        exact (h4 y).1 hy
      · intro hs
        obtain ⟨j, rfl⟩ := Int.eq_ofNat_of_zero_le (HH.out.inK.at h1 s hs).1
        exact List.mem_map.2 ⟨j, (h4 j).2 hs, rfl⟩
    rw [he] at h6
    exact ⟨h6, fun y hy => by have h7 := HH.out.rows.inM.all n t.shapes y hy; have h8 := HH.out.rows.few.2; omega⟩
  have W5 : Hid (WkAt c w5 f g fi bi ii N r T Y l k) := HH.out.still (HT.out.2.2.mono fun j hj e => by omega)
  clear t5 h1 h2 h3 h4 h5 h6
  have x19 : w5.cell? ⟨X, 19, none⟩ = some (.func (.func 86) #[] #[.pointer (some ⟨N, 0, none⟩)]) := by rw [← HX.out]; exact W5.out.box.cell 19
  have lX : X < w5.heap.size := by have := W5.out.box.lt; rwa [HX.out] at this
  have henter : ∀ (args : Array Value) (W : World), (callFunc 86 args).run Tryz.prog W = .ok (.enter 86 args) W := enters_of Tryz.func86 (by kernel_rfl) rfl
  go_wp2_with fail
  clear x19 lX
  refine (give_any W5.out.now W5.out.ne.2.1 d (some A)).mono ?_; rintro e w6 (⟨hb, rfl, hn6, t6⟩ | ⟨hb, rfl, rfl⟩)
  · have H6 := Lib.hid (And.intro hb (And.intro hn6 t6))
    clear hb hn6 t6
    go_wp2_with fail
    go_end0
    refine .inl ⟨⟨HO.out, (hasK_iff W5.out.kn d).1 H6.out.1⟩, rfl, ⟨_, H6.out.2.1, ?_⟩, ?_⟩
    · rw [HT.out.1]
      exact (W5.out.kn.keep H6.out.2.2 (fun b im R hb e => W5.out.now.words b im R hb (.inr e))).set (HT.out.2.1.keep H6.out.2.2 (fun e => W5.out.now.words _ _ _ HT.out.2.1.1 (.inr e)))
    · exact ((HT.out.2.2.mono fun j _ e => .inr e).trans (H6.out.2.2.mono fun j _ e => .inl (.inr e))).mono (S := fun j => (j = N ∨ j = r) ∨ w.heap.size ≤ j) fun j hj e => e.elim id fun e => by omega
  · refine ⟨rfl, .inr ⟨fun e => ?_, rfl, HT.out.2.2.mono fun j hj e => by omega⟩⟩
    rw [(hasK_iff W5.out.kn d).2 e.2] at hb
    cases hb
end Go.Proofs.YtglalgjffkoneaaGreatDoor
/- ways: numbers, or shapes, and blocks by turns. -/
namespace Go.Proofs.YtglalgjffkoneaaGreatDoor
set_option linter.unusedVariables false
set_option linter.unusedSimpArgs false
open Go.ChangeShapes Go.WideShapes Go.ChangeAt Go.RowKit
open Vf (K nth nth_nat tyAt atK isK numT oneT le beginK tsub RowK FitsK CalledK resT ObjK keepK KeepsK setK hasK)
/-- How far the ways are gone through. -/
def UpTo (xs : List Int) (Q : Int → Int → Prop) (i : Nat) : Prop := ∀ j, j < i → (j = 0 ∨ xs.getD (2 * j - 2) 0 < xs.getD (2 * j) 0) ∧ Q (xs.getD (2 * j) 0) (xs.getD (2 * j + 1) 0)
def WaysR (S : Nat → Prop) (xs : List Int) (Q : Int → Int → Prop) (J : Nat → World → Prop) (w : World) (e : Ending) (w' : World) : Prop := Turn S w w' ∧
  ((Vf.WaysK xs Q ∧ e = .returned (.tuple #[]) ∧ J (xs.length / 2) w') ∨ (¬ Vf.WaysK xs Q ∧ e = .panicked [{ v := wrongV, recovered := false }]))
set_option maxRecDepth 100000 in
set_option maxHeartbeats 8000000 in
theorem ways_any {B : Nat} {w : World} {a : Option Addr} {n c : Nat} {xs : List Int} (hl : Ints B w a n xs) (hn : n ≤ maxLen) (S : Nat → Prop) (Q : Int → Int → Prop) (J : Nat → World → Prop) (fid : FuncId) (first cap : Array Value) (hfid : ∀ args W, (callFunc fid args).run Tryz.prog W = .ok (.enter fid args) W)
    (hS : ∀ j, S j → B ≤ j) (hB : B ≤ w.heap.size) (hJ : ∀ i W W', J i W → Still W W' → J i W')
    (hdo : ∀ (i : Nat) (W : World), 2 * i + 1 < n → Turn S w W → J i W → Calls Tryz.prog fid (first ++ (#[.int .i64 (xs.getD (2 * i) 0), .int .i64 (xs.getD (2 * i + 1) 0)] ++ cap)) W (DoR S (Q (xs.getD (2 * i) 0) (xs.getD (2 * i + 1) 0)) (J (i + 1)) W))
    (h0 : J 0 w) :
    Calls Tryz.prog 159 #[.slice a n c, .func (.func fid) first cap] w (WaysR S xs Q J w) := by
  have HL := Lib.hid hl
  have HLEN : Hid (xs.length = n) := hl.len
  have HSF := Lib.hid (And.intro hS hB)
  have HJ := Lib.hid hJ
  have HDO := Lib.hid hdo
  have HFID := Lib.hid hfid
  have H0 := Lib.hid h0
  have hn63 : n ≤ 9223372036854775807 := by unfold maxLen at hn; omega
  clear hl hS hB hJ hdo hfid h0 hn
  go_enter Tryz.func159, Tryz.ntmps159
  by_cases hev : n % 2 = 0
  rotate_left
  · have e1 : Int.tmod (n : Int) 2 = 1 := by rw [Int.tmod_eq_emod_of_nonneg (by omega)]; omega
    have e2 : (n : Int) % 2 = 1 := by omega
    go_wp2_with fail
    refine (need_no _).mono ?_; rintro e w2 ⟨rfl, hw2⟩; subst w2
    exact ⟨rfl, Turn.refl _ _, .inr ⟨fun e => hev (by rw [← HLEN.out]; exact e.1), rfl⟩⟩
  have e1 : Int.tmod (n : Int) 2 = 0 := by rw [Int.tmod_eq_emod_of_nonneg (by omega)]; omega
  have e2 : (n : Int) % 2 = 0 := by omega
  go_wp2_with fail
  refine (need_yes _).mono ?_; rintro e w2 ⟨rfl, hw2⟩; subst w2
  clear e1 e2
  go_wp2_with fail
  go_loopw [4] (fun z wr => ∃ i e : Nat, z = .int .i64 e ∧ e = 2 * i ∧ e ≤ n ∧ UpTo xs Q i ∧ J i wr ∧ Turn S w wr) (fun z _ => n - (intOf z).toNat)
  case atStart => exact ⟨0, 0, rfl, rfl, Nat.zero_le _, fun j hj => by omega, H0.out, Turn.refl _ _⟩
  case round =>
    obtain ⟨i, e, rfl, hei, hen, hup, hj, ht⟩ := hrel
    have HP := Lib.hid (And.intro hei (And.intro hup (And.intro hj ht)))
    clear hup hj
    by_cases hlt : e < n
    rotate_left
    · obtain rfl : e = n := by omega
      have x0 : decide ((e : Int) < e) = false := decide_eq_false (by omega)
      have x1 : decide (e < e) = false := decide_eq_false (by omega)
      clear hlt ht hei
      go_wp2_with fail
      go_end0
      refine ⟨HP.out.2.2.2, .inl ⟨⟨by rw [HLEN.out]; exact hev, fun j hj => HP.out.2.1 j (by have := HP.out.1; have := HLEN.out; omega)⟩, rfl, ?_⟩⟩
      rw [HLEN.out, HP.out.1, show 2 * i / 2 = i by omega]
      exact HP.out.2.2.1
    have hlt1 : e + 1 < n := by omega
    obtain ⟨b0, off, rfl, hb, hc⟩ := ints_cell HL.out (by omega)
    have hbS : ¬ S b0 := fun e => by have := HSF.out.1 _ e; omega
    have hcell : ∀ {W : World}, Turn S w W → ∀ j, j < n → W.cell? ⟨b0, off + j, none⟩ = some (.int .i64 (xs.getD j 0)) := fun {W} t j hj => (t.cell (p := ⟨b0, off + j, none⟩) (by show b0 < _; have := HSF.out.2; omega) hbS).trans (hc j hj)
    have HCELL : Hid (∀ {W : World}, Turn S w W → ∀ j, j < n → W.cell? ⟨b0, off + j, none⟩ = some (.int .i64 (xs.getD j 0))) := hcell
    have HBL : Hid (b0 < w.heap.size) := by show _ < _; have := HSF.out.2; omega
    obtain ⟨y, hy⟩ : ∃ y, xs.getD e 0 = y := ⟨_, rfl⟩
    obtain ⟨wD, hwD⟩ : ∃ wD, wr.drew = wD := ⟨_, rfl⟩
    have SD : Hid (Turn S w wD ∧ Still wr wD) := by rw [← hwD]; exact ⟨ht.drew, (Still.refl wr).drew⟩
    have HY := Lib.hid hy
    have hc0 := hcell SD.out.1 e hlt
    rw [hy] at hc0
    have hbl : b0 < wD.heap.size := by have h1 := SD.out.1.size; have := HBL.out; omega
    have HLT := Lib.hid (And.intro hlt hlt1)
    have hei2 : (e : Int) < (n : Int) := by omega
    clear hc hbS hcell ht hy hei
    by_cases hz : e = 0
    · have hz0 : ((e : Int) == 0) = true := by rw [hz]; rfl
      have HUP : Hid (i = 0 ∨ xs.getD (e - 2) 0 < y) := .inl (by have := HP.out.1; omega)
      clear hz hlt hlt1
      go_wp2_with fail
      refine wp_region_held_drew (S := fun W => W.cell? ⟨b0, off + e, none⟩ = some (.int .i64 y)) (by kernel_rfl) (by rw [hwD]; exact hc0) (fun hHeld => ?_)
      try simp only [Act.put, List.getElem_toArray, List.getElem_cons_succ, List.getElem_cons_zero, List.setIfInBounds_toArray, List.set_cons_zero, List.set_cons_succ]
      rw [hwD] at hHeld ⊢
      clear hwD hc0
      refine wpAnyH_take (i := 0) (v := ?_) rfl (by kernel_rfl) (by kernel_rfl) (by kernel_rfl) (fun _ _ _ h => h) (Or.inl ⟨by rfl, ?_⟩) (by assumption) ?_
      rotate_left
      · intro w hSw; (try dsimp only at hSw); go_simp; try with_reducible rfl
      try simp only [Act.put, List.getElem_toArray, List.getElem_cons_succ, List.getElem_cons_zero, List.setIfInBounds_toArray, List.set_cons_zero, List.set_cons_succ]
      refine wpAnyH_take (i := 1) (v := ?_) rfl (by kernel_rfl) (by kernel_rfl) (by kernel_rfl) (fun _ _ _ h => h) (Or.inl ⟨by rfl, ?_⟩) (by assumption) ?_
      rotate_left
      · intro w hSw; (try dsimp only at hSw); go_simp; try with_reducible rfl
      try simp only [Act.put, List.getElem_toArray, List.getElem_cons_succ, List.getElem_cons_zero, List.setIfInBounds_toArray, List.set_cons_zero, List.set_cons_succ]
      refine wpAnyH_take (i := 2) (v := ?_) rfl (by kernel_rfl) (by kernel_rfl) (by kernel_rfl) (fun _ _ _ h => h) (Or.inl ⟨by rfl, ?_⟩) (by assumption) ?_
      rotate_left
      · intro w hSw; (try dsimp only at hSw); go_simp; try with_reducible rfl
      try simp only [Act.put, List.getElem_toArray, List.getElem_cons_succ, List.getElem_cons_zero, List.setIfInBounds_toArray, List.set_cons_zero, List.set_cons_succ]
      refine wpAnyH_take (i := 3) (v := undef) rfl (by kernel_rfl) (by kernel_rfl) (by kernel_rfl) (fun _ _ _ h => h) (Or.inr ⟨by rfl, rfl⟩) (by assumption) ?_
      try simp only [Act.put, List.getElem_toArray, List.getElem_cons_succ, List.getElem_cons_zero, List.setIfInBounds_toArray, List.set_cons_zero, List.set_cons_succ]
      refine wpAnyH_take (i := 4) (v := undef) rfl (by kernel_rfl) (by kernel_rfl) (by kernel_rfl) (fun _ _ _ h => h) (Or.inr ⟨by rfl, rfl⟩) (by assumption) ?_
      try simp only [Act.put, List.getElem_toArray, List.getElem_cons_succ, List.getElem_cons_zero, List.setIfInBounds_toArray, List.set_cons_zero, List.set_cons_succ]
      refine wpAnyH_take (i := 5) (v := undef) rfl (by kernel_rfl) (by kernel_rfl) (by kernel_rfl) (fun _ _ _ h => h) (Or.inr ⟨by rfl, rfl⟩) (by assumption) ?_
      try simp only [Act.put, List.getElem_toArray, List.getElem_cons_succ, List.getElem_cons_zero, List.setIfInBounds_toArray, List.set_cons_zero, List.set_cons_succ]
      refine wpAnyH_take (i := 6) (v := undef) rfl (by kernel_rfl) (by kernel_rfl) (by kernel_rfl) (fun _ _ _ h => h) (Or.inr ⟨by rfl, rfl⟩) (by assumption) ?_
      try simp only [Act.put, List.getElem_toArray, List.getElem_cons_succ, List.getElem_cons_zero, List.setIfInBounds_toArray, List.set_cons_zero, List.set_cons_succ]
      refine wpAnyH_take (i := 7) (v := undef) rfl (by kernel_rfl) (by kernel_rfl) (by kernel_rfl) (fun _ _ _ h => h) (Or.inr ⟨by rfl, rfl⟩) (by assumption) ?_
      try simp only [Act.put, List.getElem_toArray, List.getElem_cons_succ, List.getElem_cons_zero, List.setIfInBounds_toArray, List.set_cons_zero, List.set_cons_succ]
      refine wpAnyH_take (i := 8) (v := undef) rfl (by kernel_rfl) (by kernel_rfl) (by kernel_rfl) (fun _ _ _ h => h) (Or.inr ⟨by rfl, rfl⟩) (by assumption) ?_
      try simp only [Act.put, List.getElem_toArray, List.getElem_cons_succ, List.getElem_cons_zero, List.setIfInBounds_toArray, List.set_cons_zero, List.set_cons_succ]
      refine wpAnyH_take (i := 9) (v := undef) rfl (by kernel_rfl) (by kernel_rfl) (by kernel_rfl) (fun _ _ _ h => h) (Or.inr ⟨by rfl, rfl⟩) (by assumption) ?_
      try simp only [Act.put, List.getElem_toArray, List.getElem_cons_succ, List.getElem_cons_zero, List.setIfInBounds_toArray, List.set_cons_zero, List.set_cons_succ]
      refine wpAnyH_take (i := 10) (v := undef) rfl (by kernel_rfl) (by kernel_rfl) (by kernel_rfl) (fun _ _ _ h => h) (Or.inr ⟨by rfl, rfl⟩) (by assumption) ?_
      try simp only [Act.put, List.getElem_toArray, List.getElem_cons_succ, List.getElem_cons_zero, List.setIfInBounds_toArray, List.set_cons_zero, List.set_cons_succ]
      refine wpAnyH_take (i := 11) (v := undef) rfl (by kernel_rfl) (by kernel_rfl) (by kernel_rfl) (fun _ _ _ h => h) (Or.inr ⟨by rfl, rfl⟩) (by assumption) ?_
      try simp only [Act.put, List.getElem_toArray, List.getElem_cons_succ, List.getElem_cons_zero, List.setIfInBounds_toArray, List.set_cons_zero, List.set_cons_succ]
      refine wpAnyH_take (i := 12) (v := undef) rfl (by kernel_rfl) (by kernel_rfl) (by kernel_rfl) (fun _ _ _ h => h) (Or.inr ⟨by rfl, rfl⟩) (by assumption) ?_
      try simp only [Act.put, List.getElem_toArray, List.getElem_cons_succ, List.getElem_cons_zero, List.setIfInBounds_toArray, List.set_cons_zero, List.set_cons_succ]
      refine wpAnyH_take (i := 13) (v := ?_) rfl (by kernel_rfl) (by kernel_rfl) (by kernel_rfl) (fun _ _ _ h => h) (Or.inl ⟨by rfl, ?_⟩) (by assumption) ?_
      rotate_left
      · intro w hSw; (try dsimp only at hSw); go_simp; try with_reducible rfl
      try simp only [Act.put, List.getElem_toArray, List.getElem_cons_succ, List.getElem_cons_zero, List.setIfInBounds_toArray, List.set_cons_zero, List.set_cons_succ]
      refine wpAnyH_ready (rs := [14]) (by kernel_rfl) (by simp) ?_
      refine AllReadyH.cons rfl (fun K hK => ?_) AllReadyH.nil
      go_simp
      refine (need_yes _).mono ?_; rintro e3 w3 ⟨rfl, hw3⟩; subst w3
      refine hK.out _ _ hHeld (fun hHeld => ?_)
      clear hK K
      refine wpAnyH_done (by kernel_rfl) ?_ _
      clear hHeld hz0 hbl hei2
      obtain ⟨e1, he1⟩ : ∃ e1 : Nat, e1 = e + 1 := ⟨_, rfl⟩
      have HE1 := Lib.hid he1
      obtain ⟨z, hz⟩ : ∃ z, xs.getD e1 0 = z := ⟨_, rfl⟩
      have HZ := Lib.hid hz
      obtain ⟨wE, hwE⟩ : ∃ wE, wD.drew = wE := ⟨_, rfl⟩
      have SE : Hid (Turn S w wE ∧ Still wr wE) := by rw [← hwE]; exact ⟨SD.out.1.drew, SD.out.2.drew⟩
      have q0 := HCELL.out SE.out.1 e HLT.out.1
      have q1 := HCELL.out SE.out.1 e1 (by have := HLT.out.2; omega)
      rw [HY.out] at q0
      rw [hz] at q1
      have hbl : b0 < wE.heap.size := by have h1 := SE.out.1.size; have := HBL.out; omega
      have hs1 : IntKind.i64.wrap ((e : Int) + 1) = (e1 : Int) := by rw [IntKind.wrap_i64]; have := HLT.out.2; omega
      have hs3 : IntKind.i64.wrap (e1 : Int) = (e1 : Int) := by rw [IntKind.wrap_i64]; have := HLT.out.2; omega
      have hs6 : (e : Int) + 1 = (e1 : Int) := by omega
      have hs2 : (e1 : Int) < (n : Int) := by have := HLT.out.2; omega
      have hs4 : e < n := HLT.out.1
      have hs5 : e1 < n := by have := HLT.out.2; omega
      have hfid := HFID.out
      have HDC := HDO.out i wE (by have := HLT.out.2; have := HP.out.1; omega) SE.out.1 (HJ.out _ _ _ HP.out.2.2.1 SE.out.2)
      rw [← HP.out.1, HY.out, show e + 1 = e1 from HE1.out.symm, hz] at HDC
      have HDX := Lib.hid HDC
      clear hz HDC he1
      go_wp2_with fail
      refine wp_region_held_drew (S := fun W => W.cell? ⟨b0, off + e, none⟩ = some (.int .i64 y) ∧ W.cell? ⟨b0, off + e1, none⟩ = some (.int .i64 z)) (by kernel_rfl) (by rw [hwE]; exact ⟨q0, q1⟩) (fun hHeld => ?_)
      try simp only [Act.put, List.getElem_toArray, List.getElem_cons_succ, List.getElem_cons_zero, List.setIfInBounds_toArray, List.set_cons_zero, List.set_cons_succ]
      rw [hwE] at hHeld ⊢
      clear hwE q0 q1
      refine wpAnyH_take (i := 0) (v := ?_) rfl (by kernel_rfl) (by kernel_rfl) (by kernel_rfl) (fun _ _ _ h => h) (Or.inl ⟨by rfl, ?_⟩) (by assumption) ?_
      rotate_left
      · intro w hSw; (try dsimp only at hSw); go_simp; try with_reducible rfl
      try simp only [Act.put, List.getElem_toArray, List.getElem_cons_succ, List.getElem_cons_zero, List.setIfInBounds_toArray, List.set_cons_zero, List.set_cons_succ]
      refine wpAnyH_take (i := 1) (v := ?_) rfl (by kernel_rfl) (by kernel_rfl) (by kernel_rfl) (fun _ _ _ h => h) (Or.inl ⟨by rfl, ?_⟩) (by assumption) ?_
      rotate_left
      · intro w hSw; (try dsimp only at hSw); go_simp; try with_reducible rfl
      try simp only [Act.put, List.getElem_toArray, List.getElem_cons_succ, List.getElem_cons_zero, List.setIfInBounds_toArray, List.set_cons_zero, List.set_cons_succ]
      refine wpAnyH_take (i := 2) (v := ?_) rfl (by kernel_rfl) (by kernel_rfl) (by kernel_rfl) (fun _ _ _ h => h) (Or.inl ⟨by rfl, ?_⟩) (by assumption) ?_
      rotate_left
      · intro w hSw; (try dsimp only at hSw); go_simp; try with_reducible rfl
      try simp only [Act.put, List.getElem_toArray, List.getElem_cons_succ, List.getElem_cons_zero, List.setIfInBounds_toArray, List.set_cons_zero, List.set_cons_succ]
      refine wpAnyH_take (i := 3) (v := ?_) rfl (by kernel_rfl) (by kernel_rfl) (by kernel_rfl) (fun _ _ _ h => h) (Or.inl ⟨by rfl, ?_⟩) (by assumption) ?_
      rotate_left
      · intro w hSw; (try dsimp only at hSw); go_simp; try with_reducible rfl
      try simp only [Act.put, List.getElem_toArray, List.getElem_cons_succ, List.getElem_cons_zero, List.setIfInBounds_toArray, List.set_cons_zero, List.set_cons_succ]
      refine wpAnyH_take (i := 4) (v := ?_) rfl (by kernel_rfl) (by kernel_rfl) (by kernel_rfl) (fun _ _ _ h => h) (Or.inl ⟨by rfl, ?_⟩) (by assumption) ?_
      rotate_left
      · intro w hSw; (try dsimp only at hSw); go_simp; try with_reducible rfl
      try simp only [Act.put, List.getElem_toArray, List.getElem_cons_succ, List.getElem_cons_zero, List.setIfInBounds_toArray, List.set_cons_zero, List.set_cons_succ]
      refine wpAnyH_take (i := 5) (v := ?_) rfl (by kernel_rfl) (by kernel_rfl) (by kernel_rfl) (fun _ _ _ h => h) (Or.inl ⟨by rfl, ?_⟩) (by assumption) ?_
      rotate_left
      · intro w hSw; (try dsimp only at hSw); go_simp; try with_reducible rfl
      try simp only [Act.put, List.getElem_toArray, List.getElem_cons_succ, List.getElem_cons_zero, List.setIfInBounds_toArray, List.set_cons_zero, List.set_cons_succ]
      refine wpAnyH_take (i := 6) (v := ?_) rfl (by kernel_rfl) (by kernel_rfl) (by kernel_rfl) (fun _ _ _ h => h) (Or.inl ⟨by rfl, ?_⟩) (by assumption) ?_
      rotate_left
      · intro w hSw; (try dsimp only at hSw); go_simp; try with_reducible rfl
      try simp only [Act.put, List.getElem_toArray, List.getElem_cons_succ, List.getElem_cons_zero, List.setIfInBounds_toArray, List.set_cons_zero, List.set_cons_succ]
      refine wpAnyH_take (i := 7) (v := ?_) rfl (by kernel_rfl) (by kernel_rfl) (by kernel_rfl) (fun _ _ _ h => h) (Or.inl ⟨by rfl, ?_⟩) (by assumption) ?_
      rotate_left
      · intro w hSw; (try dsimp only at hSw); go_simp; try with_reducible rfl
      try simp only [Act.put, List.getElem_toArray, List.getElem_cons_succ, List.getElem_cons_zero, List.setIfInBounds_toArray, List.set_cons_zero, List.set_cons_succ]
      refine wpAnyH_take (i := 8) (v := ?_) rfl (by kernel_rfl) (by kernel_rfl) (by kernel_rfl) (fun _ _ _ h => h) (Or.inl ⟨by rfl, ?_⟩) (by assumption) ?_
      rotate_left
      · intro w hSw; (try dsimp only at hSw); go_simp; try with_reducible rfl
      try simp only [Act.put, List.getElem_toArray, List.getElem_cons_succ, List.getElem_cons_zero, List.setIfInBounds_toArray, List.set_cons_zero, List.set_cons_succ]
      refine wpAnyH_take (i := 9) (v := ?_) rfl (by kernel_rfl) (by kernel_rfl) (by kernel_rfl) (fun _ _ _ h => h) (Or.inl ⟨by rfl, ?_⟩) (by assumption) ?_
      rotate_left
      · intro w hSw; (try dsimp only at hSw); go_simp; try with_reducible rfl
      try simp only [Act.put, List.getElem_toArray, List.getElem_cons_succ, List.getElem_cons_zero, List.setIfInBounds_toArray, List.set_cons_zero, List.set_cons_succ]
      refine wpAnyH_ready (rs := [10]) (by kernel_rfl) (by simp) ?_
      refine AllReadyH.cons rfl (fun K hK => ?_) AllReadyH.nil
      go_simp
      refine HDX.out.mono ?_; rintro e3 w3 ⟨t3, ⟨hq, rfl, hj3⟩ | ⟨hq, rfl⟩⟩
      rotate_left
      · refine ⟨rfl, SE.out.1.trans t3, .inr ⟨fun hw => hq ?_, rfl⟩⟩
        have := (hw.2 i (by have h1 := HLT.out.1; have h2 := HP.out.1; have h3 := HLEN.out; omega)).2
        rw [← HP.out.1, HY.out, show e + 1 = e1 from HE1.out.symm, HZ.out] at this
        exact this
      have h30 := HCELL.out (SE.out.1.trans t3) e HLT.out.1
      have h31 := HCELL.out (SE.out.1.trans t3) e1 (by have := HLT.out.2; have := HE1.out; omega)
      rw [HY.out] at h30
      rw [HZ.out] at h31
      have H3 := Lib.hid (And.intro hq (And.intro hj3 (SE.out.1.trans t3)))
      clear hq hj3 t3 hHeld hs1 hs2 hs3 hs4 hs5 hs6 hbl
      refine hK.out _ _ ⟨h30, h31⟩ (fun hHeld => ?_)
      clear hK K h30 h31
      refine wpAnyH_done (by kernel_rfl) ?_ _
      clear hHeld
      have hx2 : IntKind.i64.wrap ((e : Int) + 2) = (e : Int) + 2 := by rw [IntKind.wrap_i64]; have := HLT.out.2; omega
      go_wp2_with fail
      go_roundw
      case rel =>
        refine ⟨i + 1, e + 2, by go_num, by have := HP.out.1; omega, by have := HLT.out.2; omega, fun j hj => ?_, H3.out.2.1, H3.out.2.2⟩
        by_cases hji : j < i
        · exact HP.out.2.1 j hji
        · obtain rfl : j = i := by omega
          have h2 := HP.out.1
          rw [← h2, HY.out, show e + 1 = e1 from HE1.out.symm, HZ.out]
          exact ⟨HUP.out, H3.out.1⟩
      case measure => have := HLT.out.2; simp [intOf]; omega
    · have hz0 : ((e : Int) == 0) = false := beq_eq_false_iff_ne.2 (by omega)
      obtain ⟨m, hm⟩ : ∃ m : Nat, e = m + 2 := ⟨e - 2, by have := HP.out.1; omega⟩
      have hs1 : IntKind.i64.wrap ((e : Int) - 2) = (m : Int) := by rw [IntKind.wrap_i64]; omega
      have hs3 : (e : Int) - 2 = (m : Int) := by omega
      have hs6 : IntKind.i64.wrap (m : Int) = (m : Int) := by rw [IntKind.wrap_i64]; omega
      have hmi : (m : Int) < (n : Int) := by omega
      have hmn : m < n := by omega
      have hen2 : e < n := hlt
      obtain ⟨v, hv⟩ : ∃ v, xs.getD m 0 = v := ⟨_, rfl⟩
      have hc1 := HCELL.out SD.out.1 m (by omega)
      rw [hv] at hc1
      have HMV := Lib.hid (And.intro hm hv)
      obtain ⟨q, hq⟩ : ∃ q, decide (v < y) = q := ⟨_, rfl⟩
      have HQ := Lib.hid hq
      clear hz hlt hlt1 hv hm
      go_wp2_with fail
      refine wp_region_held_drew (S := fun W => W.cell? ⟨b0, off + m, none⟩ = some (.int .i64 v) ∧ W.cell? ⟨b0, off + e, none⟩ = some (.int .i64 y)) (by kernel_rfl) (by rw [hwD]; exact ⟨hc1, hc0⟩) (fun hHeld => ?_)
      try simp only [Act.put, List.getElem_toArray, List.getElem_cons_succ, List.getElem_cons_zero, List.setIfInBounds_toArray, List.set_cons_zero, List.set_cons_succ]
      rw [hwD] at hHeld ⊢
      clear hwD hc0 hc1
      refine wpAnyH_take (i := 0) (v := ?_) rfl (by kernel_rfl) (by kernel_rfl) (by kernel_rfl) (fun _ _ _ h => h) (Or.inl ⟨by rfl, ?_⟩) (by assumption) ?_
      rotate_left
      · intro w hSw; (try dsimp only at hSw); go_simp; try with_reducible rfl
      try simp only [Act.put, List.getElem_toArray, List.getElem_cons_succ, List.getElem_cons_zero, List.setIfInBounds_toArray, List.set_cons_zero, List.set_cons_succ]
      refine wpAnyH_take (i := 1) (v := ?_) rfl (by kernel_rfl) (by kernel_rfl) (by kernel_rfl) (fun _ _ _ h => h) (Or.inl ⟨by rfl, ?_⟩) (by assumption) ?_
      rotate_left
      · intro w hSw; (try dsimp only at hSw); go_simp; try with_reducible rfl
      try simp only [Act.put, List.getElem_toArray, List.getElem_cons_succ, List.getElem_cons_zero, List.setIfInBounds_toArray, List.set_cons_zero, List.set_cons_succ]
      refine wpAnyH_take (i := 2) (v := ?_) rfl (by kernel_rfl) (by kernel_rfl) (by kernel_rfl) (fun _ _ _ h => h) (Or.inl ⟨by rfl, ?_⟩) (by assumption) ?_
      rotate_left
      · intro w hSw; (try dsimp only at hSw); go_simp; try with_reducible rfl
      try simp only [Act.put, List.getElem_toArray, List.getElem_cons_succ, List.getElem_cons_zero, List.setIfInBounds_toArray, List.set_cons_zero, List.set_cons_succ]
      refine wpAnyH_take (i := 3) (v := ?_) rfl (by kernel_rfl) (by kernel_rfl) (by kernel_rfl) (fun _ _ _ h => h) (Or.inl ⟨by rfl, ?_⟩) (by assumption) ?_
      rotate_left
      · intro w hSw; (try dsimp only at hSw); go_simp; try with_reducible rfl
      try simp only [Act.put, List.getElem_toArray, List.getElem_cons_succ, List.getElem_cons_zero, List.setIfInBounds_toArray, List.set_cons_zero, List.set_cons_succ]
      refine wpAnyH_take (i := 4) (v := ?_) rfl (by kernel_rfl) (by kernel_rfl) (by kernel_rfl) (fun _ _ _ h => h) (Or.inl ⟨by rfl, ?_⟩) (by assumption) ?_
      rotate_left
      · intro w hSw; (try dsimp only at hSw); go_simp; try with_reducible rfl
      try simp only [Act.put, List.getElem_toArray, List.getElem_cons_succ, List.getElem_cons_zero, List.setIfInBounds_toArray, List.set_cons_zero, List.set_cons_succ]
      refine wpAnyH_take (i := 5) (v := ?_) rfl (by kernel_rfl) (by kernel_rfl) (by kernel_rfl) (fun _ _ _ h => h) (Or.inl ⟨by rfl, ?_⟩) (by assumption) ?_
      rotate_left
      · intro w hSw; (try dsimp only at hSw); go_simp; try with_reducible rfl
      try simp only [Act.put, List.getElem_toArray, List.getElem_cons_succ, List.getElem_cons_zero, List.setIfInBounds_toArray, List.set_cons_zero, List.set_cons_succ]
      refine wpAnyH_take (i := 6) (v := ?_) rfl (by kernel_rfl) (by kernel_rfl) (by kernel_rfl) (fun _ _ _ h => h) (Or.inl ⟨by rfl, ?_⟩) (by assumption) ?_
      rotate_left
      · intro w hSw; (try dsimp only at hSw); go_simp; try with_reducible rfl
      try simp only [Act.put, List.getElem_toArray, List.getElem_cons_succ, List.getElem_cons_zero, List.setIfInBounds_toArray, List.set_cons_zero, List.set_cons_succ]
      refine wpAnyH_take (i := 7) (v := ?_) rfl (by kernel_rfl) (by kernel_rfl) (by kernel_rfl) (fun _ _ _ h => h) (Or.inl ⟨by rfl, ?_⟩) (by assumption) ?_
      rotate_left
      · intro w hSw; (try dsimp only at hSw); go_simp; try with_reducible rfl
      try simp only [Act.put, List.getElem_toArray, List.getElem_cons_succ, List.getElem_cons_zero, List.setIfInBounds_toArray, List.set_cons_zero, List.set_cons_succ]
      refine wpAnyH_take (i := 8) (v := ?_) rfl (by kernel_rfl) (by kernel_rfl) (by kernel_rfl) (fun _ _ _ h => h) (Or.inl ⟨by rfl, ?_⟩) (by assumption) ?_
      rotate_left
      · intro w hSw; (try dsimp only at hSw); go_simp; try with_reducible rfl
      try simp only [Act.put, List.getElem_toArray, List.getElem_cons_succ, List.getElem_cons_zero, List.setIfInBounds_toArray, List.set_cons_zero, List.set_cons_succ]
      refine wpAnyH_take (i := 9) (v := ?_) rfl (by kernel_rfl) (by kernel_rfl) (by kernel_rfl) (fun _ _ _ h => h) (Or.inl ⟨by rfl, ?_⟩) (by assumption) ?_
      rotate_left
      · intro w hSw; (try dsimp only at hSw); go_simp; try with_reducible rfl
      try simp only [Act.put, List.getElem_toArray, List.getElem_cons_succ, List.getElem_cons_zero, List.setIfInBounds_toArray, List.set_cons_zero, List.set_cons_succ]
      refine wpAnyH_take (i := 10) (v := ?_) rfl (by kernel_rfl) (by kernel_rfl) (by kernel_rfl) (fun _ _ _ h => h) (Or.inl ⟨by rfl, ?_⟩) (by assumption) ?_
      rotate_left
      · intro w hSw; (try dsimp only at hSw); go_simp; try with_reducible rfl
      try simp only [Act.put, List.getElem_toArray, List.getElem_cons_succ, List.getElem_cons_zero, List.setIfInBounds_toArray, List.set_cons_zero, List.set_cons_succ]
      refine wpAnyH_take (i := 11) (v := ?_) rfl (by kernel_rfl) (by kernel_rfl) (by kernel_rfl) (fun _ _ _ h => h) (Or.inl ⟨by rfl, ?_⟩) (by assumption) ?_
      rotate_left
      · intro w hSw; (try dsimp only at hSw); go_simp; try with_reducible rfl
      try simp only [Act.put, List.getElem_toArray, List.getElem_cons_succ, List.getElem_cons_zero, List.setIfInBounds_toArray, List.set_cons_zero, List.set_cons_succ]
      refine wpAnyH_take (i := 12) (v := ?_) rfl (by kernel_rfl) (by kernel_rfl) (by kernel_rfl) (fun _ _ _ h => h) (Or.inl ⟨by rfl, ?_⟩) (by assumption) ?_
      rotate_left
      · intro w hSw; (try dsimp only at hSw); go_simp; try with_reducible rfl
      try simp only [Act.put, List.getElem_toArray, List.getElem_cons_succ, List.getElem_cons_zero, List.setIfInBounds_toArray, List.set_cons_zero, List.set_cons_succ]
      refine wpAnyH_take (i := 13) (v := ?_) rfl (by kernel_rfl) (by kernel_rfl) (by kernel_rfl) (fun _ _ _ h => h) (Or.inl ⟨by rfl, ?_⟩) (by assumption) ?_
      rotate_left
      · intro w hSw; (try dsimp only at hSw); go_simp; try with_reducible rfl
      try simp only [Act.put, List.getElem_toArray, List.getElem_cons_succ, List.getElem_cons_zero, List.setIfInBounds_toArray, List.set_cons_zero, List.set_cons_succ]
      refine wpAnyH_ready (rs := [14]) (by kernel_rfl) (by simp) ?_
      refine AllReadyH.cons rfl (fun K hK => ?_) AllReadyH.nil
      go_simp
      cases q with
      | false =>
        refine (need_no _).mono ?_; rintro e3 w3 ⟨rfl, hw3⟩; subst w3
        refine ⟨rfl, SD.out.1, .inr ⟨fun hw => ?_, rfl⟩⟩
        have h1 := (hw.2 i (by have h1 := HLT.out.1; have h2 := HP.out.1; have h3 := HLEN.out; omega)).1
        have h2 := HP.out.1
        have h3 := HMV.out.1
        rcases h1 with h1 | h1
        · omega
        · rw [← h2, show e - 2 = m by omega, HMV.out.2, HY.out] at h1
          exact absurd h1 (of_decide_eq_false HQ.out)
      | true =>
        have HUP : Hid (i = 0 ∨ xs.getD (e - 2) 0 < y) := .inr (by have h3 := HMV.out.1; rw [show e - 2 = m by omega, HMV.out.2]; exact of_decide_eq_true HQ.out)
        refine (need_yes _).mono ?_; rintro e3 w3 ⟨rfl, hw3⟩; subst w3
        refine hK.out _ _ hHeld (fun hHeld => ?_)
        clear hK K
        refine wpAnyH_done (by kernel_rfl) ?_ _
        clear hHeld hz0 hbl hei2 hs1 hs3 hs6 hmi hmn hen2 hq
        obtain ⟨e1, he1⟩ : ∃ e1 : Nat, e1 = e + 1 := ⟨_, rfl⟩
        have HE1 := Lib.hid he1
        obtain ⟨z, hz⟩ : ∃ z, xs.getD e1 0 = z := ⟨_, rfl⟩
        have HZ := Lib.hid hz
        obtain ⟨wE, hwE⟩ : ∃ wE, wD.drew = wE := ⟨_, rfl⟩
        have SE : Hid (Turn S w wE ∧ Still wr wE) := by rw [← hwE]; exact ⟨SD.out.1.drew, SD.out.2.drew⟩
        have q0 := HCELL.out SE.out.1 e HLT.out.1
        have q1 := HCELL.out SE.out.1 e1 (by have := HLT.out.2; omega)
        rw [HY.out] at q0
        rw [hz] at q1
        have hbl : b0 < wE.heap.size := by have h1 := SE.out.1.size; have := HBL.out; omega
        have hs1 : IntKind.i64.wrap ((e : Int) + 1) = (e1 : Int) := by rw [IntKind.wrap_i64]; have := HLT.out.2; omega
        have hs3 : IntKind.i64.wrap (e1 : Int) = (e1 : Int) := by rw [IntKind.wrap_i64]; have := HLT.out.2; omega
        have hs6 : (e : Int) + 1 = (e1 : Int) := by omega
        have hs2 : (e1 : Int) < (n : Int) := by have := HLT.out.2; omega
        have hs4 : e < n := HLT.out.1
        have hs5 : e1 < n := by have := HLT.out.2; omega
        have hfid := HFID.out
        have HDC := HDO.out i wE (by have := HLT.out.2; have := HP.out.1; omega) SE.out.1 (HJ.out _ _ _ HP.out.2.2.1 SE.out.2)
        rw [← HP.out.1, HY.out, show e + 1 = e1 from HE1.out.symm, hz] at HDC
        have HDX := Lib.hid HDC
        clear hz HDC he1
        go_wp2_with fail
        refine wp_region_held_drew (S := fun W => W.cell? ⟨b0, off + e, none⟩ = some (.int .i64 y) ∧ W.cell? ⟨b0, off + e1, none⟩ = some (.int .i64 z)) (by kernel_rfl) (by rw [hwE]; exact ⟨q0, q1⟩) (fun hHeld => ?_)
        try simp only [Act.put, List.getElem_toArray, List.getElem_cons_succ, List.getElem_cons_zero, List.setIfInBounds_toArray, List.set_cons_zero, List.set_cons_succ]
        rw [hwE] at hHeld ⊢
        clear hwE q0 q1
        refine wpAnyH_take (i := 0) (v := ?_) rfl (by kernel_rfl) (by kernel_rfl) (by kernel_rfl) (fun _ _ _ h => h) (Or.inl ⟨by rfl, ?_⟩) (by assumption) ?_
        rotate_left
        · intro w hSw; (try dsimp only at hSw); go_simp; try with_reducible rfl
        try simp only [Act.put, List.getElem_toArray, List.getElem_cons_succ, List.getElem_cons_zero, List.setIfInBounds_toArray, List.set_cons_zero, List.set_cons_succ]
        refine wpAnyH_take (i := 1) (v := ?_) rfl (by kernel_rfl) (by kernel_rfl) (by kernel_rfl) (fun _ _ _ h => h) (Or.inl ⟨by rfl, ?_⟩) (by assumption) ?_
        rotate_left
        · intro w hSw; (try dsimp only at hSw); go_simp; try with_reducible rfl
        try simp only [Act.put, List.getElem_toArray, List.getElem_cons_succ, List.getElem_cons_zero, List.setIfInBounds_toArray, List.set_cons_zero, List.set_cons_succ]
        refine wpAnyH_take (i := 2) (v := ?_) rfl (by kernel_rfl) (by kernel_rfl) (by kernel_rfl) (fun _ _ _ h => h) (Or.inl ⟨by rfl, ?_⟩) (by assumption) ?_
        rotate_left
        · intro w hSw; (try dsimp only at hSw); go_simp; try with_reducible rfl
        try simp only [Act.put, List.getElem_toArray, List.getElem_cons_succ, List.getElem_cons_zero, List.setIfInBounds_toArray, List.set_cons_zero, List.set_cons_succ]
        refine wpAnyH_take (i := 3) (v := ?_) rfl (by kernel_rfl) (by kernel_rfl) (by kernel_rfl) (fun _ _ _ h => h) (Or.inl ⟨by rfl, ?_⟩) (by assumption) ?_
        rotate_left
        · intro w hSw; (try dsimp only at hSw); go_simp; try with_reducible rfl
        try simp only [Act.put, List.getElem_toArray, List.getElem_cons_succ, List.getElem_cons_zero, List.setIfInBounds_toArray, List.set_cons_zero, List.set_cons_succ]
        refine wpAnyH_take (i := 4) (v := ?_) rfl (by kernel_rfl) (by kernel_rfl) (by kernel_rfl) (fun _ _ _ h => h) (Or.inl ⟨by rfl, ?_⟩) (by assumption) ?_
        rotate_left
        · intro w hSw; (try dsimp only at hSw); go_simp; try with_reducible rfl
        try simp only [Act.put, List.getElem_toArray, List.getElem_cons_succ, List.getElem_cons_zero, List.setIfInBounds_toArray, List.set_cons_zero, List.set_cons_succ]
        refine wpAnyH_take (i := 5) (v := ?_) rfl (by kernel_rfl) (by kernel_rfl) (by kernel_rfl) (fun _ _ _ h => h) (Or.inl ⟨by rfl, ?_⟩) (by assumption) ?_
        rotate_left
        · intro w hSw; (try dsimp only at hSw); go_simp; try with_reducible rfl
        try simp only [Act.put, List.getElem_toArray, List.getElem_cons_succ, List.getElem_cons_zero, List.setIfInBounds_toArray, List.set_cons_zero, List.set_cons_succ]
        refine wpAnyH_take (i := 6) (v := ?_) rfl (by kernel_rfl) (by kernel_rfl) (by kernel_rfl) (fun _ _ _ h => h) (Or.inl ⟨by rfl, ?_⟩) (by assumption) ?_
        rotate_left
        · intro w hSw; (try dsimp only at hSw); go_simp; try with_reducible rfl
        try simp only [Act.put, List.getElem_toArray, List.getElem_cons_succ, List.getElem_cons_zero, List.setIfInBounds_toArray, List.set_cons_zero, List.set_cons_succ]
        refine wpAnyH_take (i := 7) (v := ?_) rfl (by kernel_rfl) (by kernel_rfl) (by kernel_rfl) (fun _ _ _ h => h) (Or.inl ⟨by rfl, ?_⟩) (by assumption) ?_
        rotate_left
        · intro w hSw; (try dsimp only at hSw); go_simp; try with_reducible rfl
        try simp only [Act.put, List.getElem_toArray, List.getElem_cons_succ, List.getElem_cons_zero, List.setIfInBounds_toArray, List.set_cons_zero, List.set_cons_succ]
        refine wpAnyH_take (i := 8) (v := ?_) rfl (by kernel_rfl) (by kernel_rfl) (by kernel_rfl) (fun _ _ _ h => h) (Or.inl ⟨by rfl, ?_⟩) (by assumption) ?_
        rotate_left
        · intro w hSw; (try dsimp only at hSw); go_simp; try with_reducible rfl
        try simp only [Act.put, List.getElem_toArray, List.getElem_cons_succ, List.getElem_cons_zero, List.setIfInBounds_toArray, List.set_cons_zero, List.set_cons_succ]
        refine wpAnyH_take (i := 9) (v := ?_) rfl (by kernel_rfl) (by kernel_rfl) (by kernel_rfl) (fun _ _ _ h => h) (Or.inl ⟨by rfl, ?_⟩) (by assumption) ?_
        rotate_left
        · intro w hSw; (try dsimp only at hSw); go_simp; try with_reducible rfl
        try simp only [Act.put, List.getElem_toArray, List.getElem_cons_succ, List.getElem_cons_zero, List.setIfInBounds_toArray, List.set_cons_zero, List.set_cons_succ]
        refine wpAnyH_ready (rs := [10]) (by kernel_rfl) (by simp) ?_
        refine AllReadyH.cons rfl (fun K hK => ?_) AllReadyH.nil
        go_simp
        refine HDX.out.mono ?_; rintro e3 w3 ⟨t3, ⟨hq, rfl, hj3⟩ | ⟨hq, rfl⟩⟩
        rotate_left
        · refine ⟨rfl, SE.out.1.trans t3, .inr ⟨fun hw => hq ?_, rfl⟩⟩
          have := (hw.2 i (by have h1 := HLT.out.1; have h2 := HP.out.1; have h3 := HLEN.out; omega)).2
          rw [← HP.out.1, HY.out, show e + 1 = e1 from HE1.out.symm, HZ.out] at this
          exact this
        have h30 := HCELL.out (SE.out.1.trans t3) e HLT.out.1
        have h31 := HCELL.out (SE.out.1.trans t3) e1 (by have := HLT.out.2; have := HE1.out; omega)
        rw [HY.out] at h30
        rw [HZ.out] at h31
        have H3 := Lib.hid (And.intro hq (And.intro hj3 (SE.out.1.trans t3)))
        clear hq hj3 t3 hHeld hs1 hs2 hs3 hs4 hs5 hs6 hbl
        refine hK.out _ _ ⟨h30, h31⟩ (fun hHeld => ?_)
        clear hK K h30 h31
        refine wpAnyH_done (by kernel_rfl) ?_ _
        clear hHeld
        have hx2 : IntKind.i64.wrap ((e : Int) + 2) = (e : Int) + 2 := by rw [IntKind.wrap_i64]; have := HLT.out.2; omega
        go_wp2_with fail
        go_roundw
        case rel =>
          refine ⟨i + 1, e + 2, by go_num, by have := HP.out.1; omega, by have := HLT.out.2; omega, fun j hj => ?_, H3.out.2.1, H3.out.2.2⟩
          by_cases hji : j < i
          · exact HP.out.2.1 j hji
          · obtain rfl : j = i := by omega
            have h2 := HP.out.1
            rw [← h2, HY.out, show e + 1 = e1 from HE1.out.symm, HZ.out]
            exact ⟨HUP.out, H3.out.1⟩
        case measure => have := HLT.out.2; simp [intOf]; omega
end Go.Proofs.YtglalgjffkoneaaGreatDoor
/- choose: there must be a way for each word that the slot may have. -/
namespace Go.Proofs.YtglalgjffkoneaaGreatDoor
set_option linter.unusedVariables false
set_option linter.unusedSimpArgs false
open Go.ChangeShapes Go.WideShapes Go.ChangeAt Go.RowKit
open Vf (K nth nth_nat tyAt atK isK numT oneT le beginK tsub RowK FitsK CalledK resT ObjK keepK KeepsK setK hasK)
theorem Kn.keepS {w w' : World} {l : List (Option Nat)} {k : K} {S : Nat → Prop} (h : Kn w l k) (t : Turn S w w') (hS : ∀ j, S j → ∀ i, slotAt l i ≠ some j) : Kn w' l k := ⟨h.1, fun i hi => by
  rcases h.2 i hi with e | ⟨b, x, e1, e2, e3⟩
  · exact .inl e
  · refine .inr ⟨b, x, e1, e2, e3.keep t fun e => hS b e i ?_⟩
    unfold slotAt
    rw [if_pos (by omega), Int.toNat_natCast, e1]
    rfl⟩
theorem WkAt.keep {c : WkC} {w w' : World} {f : M.Fn} {g : FV} {fi bi ii : Int} {N r T Y : Nat} {l : List (Option Nat)} {k : K} (h : WkAt c w f g fi bi ii N r T Y l k) {S : Nat → Prop} (t : Turn S w w') (hS : ∀ j, S j → c.L ≤ j ∧ (j ≠ N ∧ j ≠ r ∧ j ≠ T ∧ j ≠ Y) ∧ ∀ i, slotAt l i ≠ some j) : WkAt c w' f g fi bi ii N r T Y l k := by
  have hX := h.rows.le
  have hbox := h.box.keep t (fun e => by have := (hS _ e).1; omega)
  have hF := h.f.keep (ii' := ii) (bi' := bi) t (fun j e => .inr (hS j e).1) ⟨_, _, _, _, _, hbox⟩
  exact ⟨hF.rows, hbox, hF.fn, hF.par, hF.blk, h.now.keep t (fun e => (hS _ e).2.1.1 rfl) (fun e => (hS _ e).2.1.2.1 rfl), h.typed.keep t (fun e => (hS _ e).2.1.2.2.1 rfl), h.types.keep t (fun e => (hS _ e).2.1.2.2.2 rfl), h.far, h.ne, h.kn.keepS t (fun j e => (hS j e).2.2), h.ok, h.inK⟩
theorem mem_evens : ∀ (xs : List Int) (s : Int), s ∈ Vf.evens xs ↔ ∃ j, 2 * j < xs.length ∧ xs.getD (2 * j) 0 = s
  | [], s => by simp [Vf.evens]
  | [x], s => by
    simp only [Vf.evens, List.mem_singleton, List.length_singleton]
    constructor
    · intro e; exact ⟨0, by omega, by rw [e]; rfl⟩
    · rintro ⟨j, hj, e⟩
      obtain rfl : j = 0 := by omega
      exact e.symm
  | x :: y :: l, s => by
    simp only [Vf.evens, List.mem_cons, List.length_cons]
    rw [mem_evens l s]
    constructor
    · rintro (e | ⟨j, hj, e⟩)
      · exact ⟨0, by omega, by rw [e]; rfl⟩
      · exact ⟨j + 1, by omega, by rw [show 2 * (j + 1) = 2 * j + 1 + 1 by omega]; exact e⟩
    · rintro ⟨j, hj, e⟩
      cases j with
      | zero => exact .inl e.symm
      | succ j => exact .inr ⟨j, by omega, by rw [show 2 * (j + 1) = 2 * j + 1 + 1 by omega] at e; exact e⟩
set_option maxRecDepth 100000 in
set_option maxHeartbeats 8000000 in
theorem choose11_any (c : WkC) {w : World} {f : M.Fn} {g : FV} {fi bi ii : Int} {N r T Y : Nat} {l : List (Option Nat)} {k : K} (h : WkAt c w f g fi bi ii N r T Y l k) {Kw : Nat} (hw : Blk w Kw 55 #[.pointer (some ⟨c.X, 0, none⟩)]) (n bl : Int) :
    Calls Tryz.prog 160 #[.int .i64 n, .int .i64 bl, .pointer (some ⟨Kw, 0, none⟩)] w (AskR (Vf.Is63 n ∧ FitsK c.m f k bl) w) := by
  have HT := Lib.hid (to_any c h bl)
  have q0 := hw.cell 0
  have l0 := hw.lt
  clear h hw
  go_enter Tryz.func160, Tryz.ntmps160
  go_wp2_with fail
  refine (is63_any n w).mono ?_; rintro e w2 ⟨rfl, hw2⟩; subst w2
  cases hb : (M.W n == n) with
  | false =>
    go_wp2_with fail
    refine (need_no _).mono ?_; rintro e w3 ⟨rfl, hw3⟩; subst w3
    refine ⟨rfl, Still.refl _, .inr ⟨fun e => ?_, rfl⟩⟩
    rw [(W_63 n).2 e.1] at hb
    cases hb
  | true =>
    have H63 : Hid (Vf.Is63 n) := (W_63 n).1 hb
    clear hb
    go_wp2_with fail
    refine (need_yes _).mono ?_; rintro e w3 ⟨rfl, hw3⟩; subst w3
    go_wp2_with fail
    refine HT.out.mono ?_; rintro e w5 ⟨t5, ⟨hp, rfl⟩ | ⟨hp, rfl⟩⟩
    · have T5 := Lib.hid (And.intro t5 hp)
      clear t5 hp q0 l0
      go_wp2_with fail
      go_end0
      exact ⟨T5.out.1, .inl ⟨⟨H63.out, T5.out.2⟩, rfl⟩⟩
    · exact ⟨rfl, t5, .inr ⟨fun e => hp e.2, rfl⟩⟩
set_option maxRecDepth 100000 in
set_option maxHeartbeats 8000000 in
theorem choose21_any (c : WkC) {w : World} {f : M.Fn} {g : FV} {fi bi ii : Int} {N r T Y : Nat} {l : List (Option Nat)} {k : K} (h : WkAt c w f g fi bi ii N r T Y l k) {Kw Kb : Nat} {bl : Int} (hw : Blk w Kw 55 #[.pointer (some ⟨c.X, 0, none⟩)]) (hb : Blk w Kb 3 #[.int .i64 bl]) :
    Calls Tryz.prog 163 #[.pointer (some ⟨Kw, 0, none⟩), .pointer (some ⟨Kb, 0, none⟩)] w (AskR (FitsK c.m f k bl) w) := by
  have HT := Lib.hid (to_any c h bl)
  have q0 := hw.cell 0
  have l0 := hw.lt
  have q1 := hb.cell 0
  have l1 := hb.lt
  clear h hw hb
  go_enter Tryz.func163, Tryz.ntmps163
  go_wp2_with fail
  refine HT.out.mono ?_; rintro e w5 ⟨t5, ⟨hp, rfl⟩ | ⟨hp, rfl⟩⟩
  · have T5 := Lib.hid (And.intro t5 hp)
    clear t5 hp q0 l0 q1 l1
    go_wp2_with fail
    go_end0
    exact ⟨T5.out.1, .inl ⟨T5.out.2, rfl⟩⟩
  · exact ⟨rfl, t5, .inr ⟨hp, rfl⟩⟩
set_option maxRecDepth 100000 in
set_option maxHeartbeats 8000000 in
theorem choose1_any (c : WkC) {w : World} {f : M.Fn} {g : FV} {fi bi ii : Int} {N r T Y : Nat} {l : List (Option Nat)} {k : K} (h : WkAt c w f g fi bi ii N r T Y l k) {la : Option Addr} {ln lc : Nat} {ma : Option Addr} {mn mc : Nat} {va : Option Addr} {vn vc : Nat} {d a b cc xn : Int} {Kw K0 : Nat} (hw : Blk w Kw 55 #[.pointer (some ⟨c.X, 0, none⟩)]) (hi : Blk w K0 36 #[.int .i64 20, .int .i64 d, .int .i64 a, .int .i64 b, .int .i64 cc, .int .i64 xn, .slice la ln lc, .slice ma mn mc, .slice va vn vc]) {L : List Int} (hL : Ints c.B w la ln L) (hln : ln ≤ maxLen) :
    Calls Tryz.prog 158 #[.pointer (some ⟨K0, 0, none⟩), .pointer (some ⟨Kw, 0, none⟩)] w (AskR (Vf.WaysK L (fun n bl => Vf.Is63 n ∧ FitsK c.m f k bl) ∧ (b ≠ -1 → FitsK c.m f k b)) w) := by
  have HH := Lib.hid h
  have HBW := Lib.hid hw
  have HBI := Lib.hid hi
  have HE1 : Hid (∀ (args : Array Value) (W : World), (callFunc 160 args).run Tryz.prog W = .ok (.enter 160 args) W) := enters_of Tryz.func160 (by kernel_rfl) rfl
  have hmf : ∀ (fn : Fn) (first cap : Array Value) (w : World), (Instr.makeFunc fn first cap).run Tryz.prog w = .ok (.func fn first cap) w := fun _ _ _ _ => rfl
  have HWY := Lib.hid (ways_any (c := lc) hL hln (fun _ => False) (fun n bl => Vf.Is63 n ∧ FitsK c.m f k bl) (fun _ _ => True) 160 #[] #[.pointer (some ⟨Kw, 0, none⟩)] HE1.out (fun j e => e.elim) (by have := h.rows.le; omega) (fun _ _ _ h _ => h)
    (fun i W hi t _ => (choose11_any c (HH.out.still t) (Still.blk t HBW.out) (L.getD (2 * i) 0) (L.getD (2 * i + 1) 0)).mono fun e w' ⟨t', hd⟩ => ⟨t', by
      rcases hd with ⟨h1, h2⟩ | ⟨h1, h2⟩
      · exact .inl ⟨h1, h2, trivial⟩
      · exact .inr ⟨h1, h2⟩⟩) trivial)
  have q6 := hi.cell 6
  have lK := hi.lt
  clear h hw hi hL hln
  go_enter Tryz.func158, Tryz.ntmps158
  go_wp2_with fail
  clear q6 lK
  refine HWY.out.mono ?_; rintro e w3 ⟨t3, ⟨hq, rfl, _⟩ | ⟨hq, rfl⟩⟩
  rotate_left
  · exact ⟨rfl, t3, .inr ⟨fun e => hq e.1, rfl⟩⟩
  have H3 : Hid (Vf.WaysK L (fun n bl => Vf.Is63 n ∧ FitsK c.m f k bl) ∧ Still w w3) := ⟨hq, t3⟩
  have b3 := (Still.blk t3 HBI.out).cell 3
  have lb := (Still.blk t3 HBI.out).lt
  have bw := (Still.blk t3 HBW.out).cell 0
  have lw := (Still.blk t3 HBW.out).lt
  have HT := Lib.hid (to_any c (HH.out.still t3) b)
  clear hq t3
  by_cases hb : b = -1
  · subst hb
    go_wp2_with fail
    go_end0
    exact ⟨H3.out.2, .inl ⟨⟨H3.out.1, fun e => absurd rfl e⟩, rfl⟩⟩
  · have hbb : (b == -1) = false := beq_eq_false_iff_ne.2 hb
    have HB := Lib.hid hb
    clear hb
    go_wp2_with fail
    refine HT.out.mono ?_; rintro e w5 ⟨t5, ⟨hp, rfl⟩ | ⟨hp, rfl⟩⟩
    · have T5 := Lib.hid (And.intro (H3.out.2.trans t5) hp)
      clear t5 hp b3 lb bw lw hbb
      go_wp2_with fail
      go_end0
      exact ⟨T5.out.1, .inl ⟨⟨H3.out.1, fun _ => T5.out.2⟩, rfl⟩⟩
    · exact ⟨rfl, H3.out.2.trans t5, .inr ⟨fun e => hp (e.2 HB.out), rfl⟩⟩
end Go.Proofs.YtglalgjffkoneaaGreatDoor
/- choose: a way for a shape; all of it. -/
namespace Go.Proofs.YtglalgjffkoneaaGreatDoor
set_option linter.unusedVariables false
set_option linter.unusedSimpArgs false
open Go.ChangeShapes Go.WideShapes Go.ChangeAt Go.RowKit
open Vf (K nth nth_nat tyAt atK isK numT oneT le beginK tsub RowK FitsK CalledK resT ObjK keepK KeepsK setK hasK)
def Choose2R (c : WkC) (f : M.Fn) (N r K5 : Nat) (l : List (Option Nat)) (k : K) (im : Bool) (R : Nat → Nat) (a s bl : Int) (w : World) (e : Ending) (w' : World) : Prop := Turn (fun j => j = r ∨ j = K5) w w' ∧
  ((((0 ≤ s ∧ s < c.m.shapes.length) ∧ FitsK c.m f (setK k a (oneT s)) bl) ∧ e = .returned (.tuple #[]) ∧ NowAt w' N r l ∧ ∃ R', WordsAt w' K5 im R' ∧ ∀ x : Nat, Vf.has R' x = (Vf.has R x || decide ((x : Int) = s))) ∨ (¬ ((0 ≤ s ∧ s < c.m.shapes.length) ∧ FitsK c.m f (setK k a (oneT s)) bl) ∧ e = .panicked [{ v := wrongV, recovered := false }]))
set_option maxRecDepth 100000 in
set_option maxHeartbeats 8000000 in
theorem choose2_any (c : WkC) {w : World} {f : M.Fn} {g : FV} {fi bi ii : Int} {N r T Y : Nat} {l : List (Option Nat)} {k : K} (h : WkAt c w f g fi bi ii N r T Y l k) {la : Option Addr} {ln lc : Nat} {ma : Option Addr} {mn mc : Nat} {va : Option Addr} {vn vc : Nat} {d a b cc xn : Int} {Kw K0 K5 : Nat} (hw : Blk w Kw 55 #[.pointer (some ⟨c.X, 0, none⟩)]) (hi : Blk w K0 36 #[.int .i64 20, .int .i64 d, .int .i64 a, .int .i64 b, .int .i64 cc, .int .i64 xn, .slice la ln lc, .slice ma mn mc, .slice va vn vc]) {im : Bool} {R : Nat → Nat} (hk : WordsAt w K5 im R) (hk5 : c.L ≤ K5 ∧ (K5 ≠ N ∧ K5 ≠ r ∧ K5 ≠ T ∧ K5 ≠ Y) ∧ ∀ i, slotAt l i ≠ some K5) (hkr : Kw ≠ r ∧ K0 ≠ r) (ha : hasK k a) (s bl : Int) :
    Calls Tryz.prog 161 #[.int .i64 s, .int .i64 bl, .pointer (some ⟨Kw, 0, none⟩), .pointer (some ⟨K5, 0, none⟩), .pointer (some ⟨K0, 0, none⟩)] w (Choose2R c f N r K5 l k im R a s bl w) := by
  have HH := Lib.hid h
  have HK5 := Lib.hid (And.intro hk5 (And.intro hkr ha))
  obtain ⟨X, hX⟩ : ∃ X, c.X = X := ⟨_, rfl⟩
  have HX := Lib.hid hX
  rw [hX] at hw
  obtain ⟨Kb, hKb⟩ : ∃ Kb, w.heap.size = Kb := ⟨_, rfl⟩
  have HKB := Lib.hid hKb
  have S1 : Hid (Still w (w.alloc (.cells #[.int .i64 bl] 3)) ∧ Blk (w.alloc (.cells #[.int .i64 bl] 3)) Kb 3 #[.int .i64 bl] ∧ Blk (w.alloc (.cells #[.int .i64 bl] 3)) Kw 55 #[.pointer (some ⟨X, 0, none⟩)] ∧ Blk (w.alloc (.cells #[.int .i64 bl] 3)) K0 36 #[.int .i64 20, .int .i64 d, .int .i64 a, .int .i64 b, .int .i64 cc, .int .i64 xn, .slice la ln lc, .slice ma mn mc, .slice va vn vc] ∧ WordsAt (w.alloc (.cells #[.int .i64 bl] 3)) K5 im R) :=
    have st : Still w (w.alloc (.cells #[.int .i64 bl] 3)) := (Still.refl w).alloc _
    ⟨st, blk_at' hKb, hw.alloc _, hi.alloc _, hk.still st⟩
  have HLEN : Hid (c.m.shapes.length = c.v.sn) := h.rows.img.shapes.len
  obtain ⟨sa, hsa⟩ : ∃ sa, c.v.sa = sa := ⟨_, rfl⟩
  obtain ⟨sn, hsn⟩ : ∃ sn, c.v.sn = sn := ⟨_, rfl⟩
  obtain ⟨sc, hsc⟩ : ∃ sc, c.v.sc = sc := ⟨_, rfl⟩
  rw [hsn] at HLEN
  have HSN := Lib.hid hsn
  have q0 : w.cell? ⟨Kw, 0, none⟩ = some (.pointer (some ⟨X, 0, none⟩)) := hw.cell 0
  have x1 : w.cell? ⟨X, 1, none⟩ = some (.slice sa sn sc) := by rw [← hX, ← hsa, ← hsn, ← hsc]; exact h.box.cell 1
  have l0 := hw.lt
  have lX : X < w.heap.size := by rw [← hX]; exact h.box.lt
  clear h hw hi hk hk5 hkr ha hX hsa hsc hKb
  go_enter Tryz.func161, Tryz.ntmps161
  go_wp2_with fail
  rw [HKB.out]
  generalize w.alloc (.cells #[.int .i64 bl] 3) = w1 at S1 ⊢
  clear q0 x1 l0 lX
  refine (hasSh_any _ _ _ _ _).mono ?_; rintro e w2 ⟨rfl, hw2⟩; subst w2
  cases hb : hasB s sn with
  | false =>
    go_wp2_with fail
    refine (need_no _).mono ?_; rintro e w3 ⟨rfl, hw3⟩; subst w3
    refine ⟨rfl, S1.out.1.turn, .inr ⟨fun e => ?_, rfl⟩⟩
    rw [HLEN.out] at e
    rw [(hasB_iff _ _).2 e.1] at hb
    cases hb
  | true =>
    obtain ⟨h0, h1⟩ := (hasB_iff _ _).1 hb
    obtain ⟨q, rfl⟩ := Int.eq_ofNat_of_zero_le h0
    have HQ : Hid (q < sn ∧ q < c.m.shapes.length) := by have := HLEN.out; exact ⟨by omega, by omega⟩
    clear hb h0 h1
    have H1 := Lib.hid (HH.out.still S1.out.1)
    obtain ⟨mb, hmb⟩ : ∃ b, c.cs[q]? = some b := ⟨_, List.getElem?_eq_getElem (by have h1 := HH.out.rows.lc; have := HQ.out.2; omega)⟩
    have HMB : Hid (c.cs[q]? = some mb ∧ mb < c.L) := ⟨hmb, (HH.out.rows.lcs mb (List.mem_of_getElem? hmb)).1⟩
    obtain ⟨r2, hr2⟩ : ∃ r2, c.r2 = r2 := ⟨_, rfl⟩
    obtain ⟨ac, hac⟩ : ∃ ac, c.ac = ac := ⟨_, rfl⟩
    have HR2 : Hid (c.r2 = r2 ∧ c.ac = ac) := ⟨hr2, hac⟩
    have y0 := S1.out.2.2.1.cell 0
    have ly0 := S1.out.2.2.1.lt
    have x8 : w1.cell? ⟨X, 8, none⟩ = some (.slice (some ⟨r2, 0, none⟩) sn ac) := by rw [← HX.out, ← hr2, ← HSN.out, ← hac]; exact H1.out.box.cell 8
    have lX : X < w1.heap.size := by rw [← HX.out]; exact H1.out.box.lt
    have xr : w1.cell? ⟨r2, q, none⟩ = some (.pointer (some ⟨mb, 0, none⟩)) := by rw [← hr2]; exact H1.out.rows.ra q mb hmb
    have lr := World.block_lt_of_cell? _ _ xr
    have hqi : (q : Int) < (sn : Int) := by have := HQ.out.1; omega
    clear hmb hr2 hac hsn
    go_wp2_with fail
    refine (need_yes _).mono ?_; rintro e w3 ⟨rfl, hw3⟩; subst w3
    go_wp2_with fail
    clear y0 ly0 x8 lX xr lr
    refine (add_any S1.out.2.2.2.2 (H1.out.rows.one HMB.out.1).1 (by have h1 := HMB.out.2; have h2 := HK5.out.1.1; omega)).mono ?_
    rintro e w3 ⟨rfl, hk3, t3⟩
    have H3 : Hid (WkAt c w3 f g fi bi ii N r T Y l k) := H1.out.keep t3 (fun j e => by have e2 : j = K5 := e; subst e2; exact HK5.out.1)
    have hne : Kw ≠ K5 ∧ K0 ≠ K5 ∧ Kb ≠ K5 := ⟨fun e => words_ne S1.out.2.2.2.2 S1.out.2.2.1 (by decide) e.symm, fun e => words_ne S1.out.2.2.2.2 S1.out.2.2.2.1 (by decide) e.symm, fun e => words_ne S1.out.2.2.2.2 S1.out.2.1 (by decide) e.symm⟩
    have S3 : Hid (Turn (fun j => j = r ∨ j = K5) w w3 ∧ Blk w3 Kb 3 #[.int .i64 bl] ∧ Blk w3 Kw 55 #[.pointer (some ⟨X, 0, none⟩)] ∧ Blk w3 K0 36 #[.int .i64 20, .int .i64 d, .int .i64 a, .int .i64 b, .int .i64 cc, .int .i64 xn, .slice la ln lc, .slice ma mn mc, .slice va vn vc] ∧ ∃ R', WordsAt w3 K5 im R' ∧ ∀ x : Nat, Vf.has R' x = (Vf.has R x || decide ((x : Int) = (q : Int)))) := by
      rw [show (oneT (q : Int)).imm = false from rfl, Bool.or_false] at hk3
      refine ⟨S1.out.1.turn.trans (t3.mono fun _ _ e => .inr e), S1.out.2.1.keep t3 hne.2.2, S1.out.2.2.1.keep t3 hne.1, S1.out.2.2.2.1.keep t3 hne.2.1, _, hk3, fun x => ?_⟩
      rw [Vf.has_both]
      congr 1
      rw [Bool.eq_iff_iff, ofL_mem (fun y hy => by
        obtain rfl : y = (q : Int) := by simpa [oneT] using hy
        omega), decide_eq_true_eq]
      simp [oneT]
    clear hk3 t3 hne
    obtain ⟨wD, hwD⟩ : ∃ wD, w3.drew = wD := ⟨_, rfl⟩
    have SD : Hid (Still w3 wD) := by rw [← hwD]; exact (Still.refl w3).drew
    have H4 := Lib.hid (H3.out.still SD.out)
    have B4 : Hid (Blk wD Kb 3 #[.int .i64 bl] ∧ Blk wD Kw 55 #[.pointer (some ⟨X, 0, none⟩)] ∧ Blk wD K0 36 #[.int .i64 20, .int .i64 d, .int .i64 a, .int .i64 b, .int .i64 cc, .int .i64 xn, .slice la ln lc, .slice ma mn mc, .slice va vn vc] ∧ TyK wD mb (oneT q)) := ⟨SD.out.blk S3.out.2.1, SD.out.blk S3.out.2.2.1, SD.out.blk S3.out.2.2.2.1, H4.out.rows.one HMB.out.1⟩
    have hS0 : wD.cell? ⟨Kw, 0, none⟩ = some (.pointer (some ⟨X, 0, none⟩)) ∧ wD.cell? ⟨X, 20, none⟩ = some (.func (.func 87) #[] #[.pointer (some ⟨N, 0, none⟩)]) ∧ wD.cell? ⟨K0, 2, none⟩ = some (.int .i64 a) ∧ wD.cell? ⟨X, 8, none⟩ = some (.slice (some ⟨r2, 0, none⟩) sn ac) ∧ wD.cell? ⟨r2, q, none⟩ = some (.pointer (some ⟨mb, 0, none⟩)) := ⟨B4.out.2.1.cell 0, by rw [← HX.out]; exact H4.out.box.cell 20, B4.out.2.2.1.cell 2, by rw [← HX.out, ← HR2.out.1, ← HSN.out, ← HR2.out.2]; exact H4.out.box.cell 8, by rw [← HR2.out.1]; exact H4.out.rows.ra q mb HMB.out.1⟩
    have henter3 : ∀ (args : Array Value) (W : World), (callFunc 87 args).run Tryz.prog W = .ok (.enter 87 args) W := enters_of Tryz.func87 (by kernel_rfl) rfl
    have hent1 : Hid (∀ (args : Array Value) (W : World), (callFunc 163 args).run Tryz.prog W = .ok (.enter 163 args) W) := enters_of Tryz.func163 (by kernel_rfl) rfl
    have hmf : ∀ (fn : Fn) (first cap : Array Value) (w : World), (Instr.makeFunc fn first cap).run Tryz.prog w = .ok (.func fn first cap) w := fun _ _ _ _ => rfl
    have hbr : Kb ≠ r := by have h1 := HKB.out; have h2 := HH.out.now.row.lt; omega
    have HWI := Lib.hid (with_any (P := FitsK c.m f (setK k a (oneT (q : Int))) bl) H4.out.now H4.out.ne.2.1 a (some mb) 163 #[] #[.pointer (some ⟨Kw, 0, none⟩), .pointer (some ⟨Kb, 0, none⟩)] hent1.out (fun W hn t => by
      have hk1 := (H4.out.kn.keep t (fun b im R hb e => H4.out.now.words b im R hb (.inr e))).set (i := a.toNat) (B4.out.2.2.2.keep t (fun e => H4.out.now.words _ _ _ B4.out.2.2.2.1 (.inr e)))
      have hin1 : InK c.m (setK k a (oneT (q : Int))) := H4.out.inK.set a (fun y hy => by
        obtain rfl : y = (q : Int) := by simpa [oneT] using hy
        have := HQ.out.2
        omega)
      refine choose21_any c (H4.out.step hn hk1 hin1 (.inl rfl) (t.mono fun _ _ e => .inr e)) (Kw := Kw) (Kb := Kb) ?_ (B4.out.1.keep t hbr)
      rw [HX.out]
      exact B4.out.2.1.keep t HK5.out.2.1.1))
    clear hbr
    go_wp2_with fail
    refine wp_region_held_drew (S := fun W => W.cell? ⟨Kw, 0, none⟩ = some (.pointer (some ⟨X, 0, none⟩)) ∧ W.cell? ⟨X, 20, none⟩ = some (.func (.func 87) #[] #[.pointer (some ⟨N, 0, none⟩)]) ∧ W.cell? ⟨K0, 2, none⟩ = some (.int .i64 a) ∧ W.cell? ⟨X, 8, none⟩ = some (.slice (some ⟨r2, 0, none⟩) sn ac) ∧ W.cell? ⟨r2, q, none⟩ = some (.pointer (some ⟨mb, 0, none⟩))) (by kernel_rfl) (by rw [hwD]; exact hS0) (fun hHeld => ?_)
    try simp only [Act.put, List.getElem_toArray, List.getElem_cons_succ, List.getElem_cons_zero, List.setIfInBounds_toArray, List.set_cons_zero, List.set_cons_succ]
    rw [hwD] at hHeld ⊢
    clear hwD hS0
    refine wpAnyH_take (i := 0) (v := ?_) rfl (by kernel_rfl) (by kernel_rfl) (by kernel_rfl) (fun _ _ _ h => h) (Or.inl ⟨by rfl, ?_⟩) (by assumption) ?_
    rotate_left
    · intro w hSw; (try dsimp only at hSw); go_simp; try with_reducible rfl
    try simp only [Act.put, List.getElem_toArray, List.getElem_cons_succ, List.getElem_cons_zero, List.setIfInBounds_toArray, List.set_cons_zero, List.set_cons_succ]
    refine wpAnyH_take (i := 1) (v := ?_) rfl (by kernel_rfl) (by kernel_rfl) (by kernel_rfl) (fun _ _ _ h => h) (Or.inl ⟨by rfl, ?_⟩) (by assumption) ?_
    rotate_left
    · intro w hSw; (try dsimp only at hSw); go_simp; try with_reducible rfl
    try simp only [Act.put, List.getElem_toArray, List.getElem_cons_succ, List.getElem_cons_zero, List.setIfInBounds_toArray, List.set_cons_zero, List.set_cons_succ]
    refine wpAnyH_take (i := 2) (v := ?_) rfl (by kernel_rfl) (by kernel_rfl) (by kernel_rfl) (fun _ _ _ h => h) (Or.inl ⟨by rfl, ?_⟩) (by assumption) ?_
    rotate_left
    · intro w hSw; (try dsimp only at hSw); go_simp; try with_reducible rfl
    try simp only [Act.put, List.getElem_toArray, List.getElem_cons_succ, List.getElem_cons_zero, List.setIfInBounds_toArray, List.set_cons_zero, List.set_cons_succ]
    refine wpAnyH_take (i := 3) (v := ?_) rfl (by kernel_rfl) (by kernel_rfl) (by kernel_rfl) (fun _ _ _ h => h) (Or.inl ⟨by rfl, ?_⟩) (by assumption) ?_
    rotate_left
    · intro w hSw; (try dsimp only at hSw); go_simp; try with_reducible rfl
    try simp only [Act.put, List.getElem_toArray, List.getElem_cons_succ, List.getElem_cons_zero, List.setIfInBounds_toArray, List.set_cons_zero, List.set_cons_succ]
    refine wpAnyH_take (i := 4) (v := ?_) rfl (by kernel_rfl) (by kernel_rfl) (by kernel_rfl) (fun _ _ _ h => h) (Or.inl ⟨by rfl, ?_⟩) (by assumption) ?_
    rotate_left
    · intro w hSw; (try dsimp only at hSw); go_simp; try with_reducible rfl
    try simp only [Act.put, List.getElem_toArray, List.getElem_cons_succ, List.getElem_cons_zero, List.setIfInBounds_toArray, List.set_cons_zero, List.set_cons_succ]
    refine wpAnyH_take (i := 5) (v := ?_) rfl (by kernel_rfl) (by kernel_rfl) (by kernel_rfl) (fun _ _ _ h => h) (Or.inl ⟨by rfl, ?_⟩) (by assumption) ?_
    rotate_left
    · intro w hSw; (try dsimp only at hSw); go_simp; try with_reducible rfl
    try simp only [Act.put, List.getElem_toArray, List.getElem_cons_succ, List.getElem_cons_zero, List.setIfInBounds_toArray, List.set_cons_zero, List.set_cons_succ]
    refine wpAnyH_take (i := 6) (v := ?_) rfl (by kernel_rfl) (by kernel_rfl) (by kernel_rfl) (fun _ _ _ h => h) (Or.inl ⟨by rfl, ?_⟩) (by assumption) ?_
    rotate_left
    · intro w hSw; (try dsimp only at hSw); go_simp; try with_reducible rfl
    try simp only [Act.put, List.getElem_toArray, List.getElem_cons_succ, List.getElem_cons_zero, List.setIfInBounds_toArray, List.set_cons_zero, List.set_cons_succ]
    refine wpAnyH_take (i := 7) (v := ?_) rfl (by kernel_rfl) (by kernel_rfl) (by kernel_rfl) (fun _ _ _ h => h) (Or.inl ⟨by rfl, ?_⟩) (by assumption) ?_
    rotate_left
    · intro w hSw; (try dsimp only at hSw); go_simp; try with_reducible rfl
    try simp only [Act.put, List.getElem_toArray, List.getElem_cons_succ, List.getElem_cons_zero, List.setIfInBounds_toArray, List.set_cons_zero, List.set_cons_succ]
    refine wpAnyH_take (i := 8) (v := ?_) rfl (by kernel_rfl) (by kernel_rfl) (by kernel_rfl) (fun _ _ _ h => h) (Or.inl ⟨by rfl, ?_⟩) (by assumption) ?_
    rotate_left
    · intro w hSw; (try dsimp only at hSw); go_simp; try with_reducible rfl
    try simp only [Act.put, List.getElem_toArray, List.getElem_cons_succ, List.getElem_cons_zero, List.setIfInBounds_toArray, List.set_cons_zero, List.set_cons_succ]
    refine wpAnyH_take (i := 9) (v := ?_) rfl (by kernel_rfl) (by kernel_rfl) (by kernel_rfl) (fun _ _ _ h => h) (Or.inl ⟨by rfl, ?_⟩) (by assumption) ?_
    rotate_left
    · intro w hSw; (try dsimp only at hSw); go_simp; try with_reducible rfl
    try simp only [Act.put, List.getElem_toArray, List.getElem_cons_succ, List.getElem_cons_zero, List.setIfInBounds_toArray, List.set_cons_zero, List.set_cons_succ]
    refine wpAnyH_take (i := 10) (v := ?_) rfl (by kernel_rfl) (by kernel_rfl) (by kernel_rfl) (fun _ _ _ h => h) (Or.inl ⟨by rfl, ?_⟩) (by assumption) ?_
    rotate_left
    · intro w hSw; (try dsimp only at hSw); go_simp; try with_reducible rfl
    try simp only [Act.put, List.getElem_toArray, List.getElem_cons_succ, List.getElem_cons_zero, List.setIfInBounds_toArray, List.set_cons_zero, List.set_cons_succ]
    refine wpAnyH_take (i := 11) (v := ?_) rfl (by kernel_rfl) (by kernel_rfl) (by kernel_rfl) (fun _ _ _ h => h) (Or.inl ⟨by rfl, ?_⟩) (by assumption) ?_
    rotate_left
    · intro w hSw; (try dsimp only at hSw); go_simp; try with_reducible rfl
    try simp only [Act.put, List.getElem_toArray, List.getElem_cons_succ, List.getElem_cons_zero, List.setIfInBounds_toArray, List.set_cons_zero, List.set_cons_succ]
    refine wpAnyH_take (i := 12) (v := ?_) rfl (by kernel_rfl) (by kernel_rfl) (by kernel_rfl) (fun _ _ _ h => h) (Or.inl ⟨by rfl, ?_⟩) (by assumption) ?_
    rotate_left
    · intro w hSw; (try dsimp only at hSw); go_simp; try with_reducible rfl
    try simp only [Act.put, List.getElem_toArray, List.getElem_cons_succ, List.getElem_cons_zero, List.setIfInBounds_toArray, List.set_cons_zero, List.set_cons_succ]
    refine wpAnyH_take (i := 13) (v := ?_) rfl (by kernel_rfl) (by kernel_rfl) (by kernel_rfl) (fun _ _ _ h => h) (Or.inl ⟨by rfl, ?_⟩) (by assumption) ?_
    rotate_left
    · intro w hSw; (try dsimp only at hSw); go_simp; try with_reducible rfl
    try simp only [Act.put, List.getElem_toArray, List.getElem_cons_succ, List.getElem_cons_zero, List.setIfInBounds_toArray, List.set_cons_zero, List.set_cons_succ]
    refine wpAnyH_take (i := 14) (v := ?_) rfl (by kernel_rfl) (by kernel_rfl) (by kernel_rfl) (fun _ _ _ h => h) (Or.inl ⟨by rfl, ?_⟩) (by assumption) ?_
    rotate_left
    · intro w hSw; (try dsimp only at hSw); go_simp; try with_reducible rfl
    try simp only [Act.put, List.getElem_toArray, List.getElem_cons_succ, List.getElem_cons_zero, List.setIfInBounds_toArray, List.set_cons_zero, List.set_cons_succ]
    refine wpAnyH_ready (rs := [15]) (by kernel_rfl) (by simp) ?_
    refine AllReadyH.cons rfl (fun K hK => ?_) AllReadyH.nil
    go_simp
    refine HWI.out.mono ?_; rintro e w6 (⟨hb, hfit, rfl, hn6, t6⟩ | ⟨hno, rfl, t6⟩)
    rotate_left
    · refine ⟨rfl, (S3.out.1.trans SD.out.turn).trans (t6.mono fun _ _ e => .inl e), .inr ⟨fun e => hno ⟨(hasK_iff HH.out.kn a).2 HK5.out.2.2, e.2⟩, rfl⟩⟩
    have hX5 : X ≠ r ∧ r2 ≠ r := by
      have h1 := H4.out.far.2.1; have h2 := HX.out; have h3 := H4.out.rows.le; have h5 := H4.out.rows.l1.2.2.1; have h6 := HR2.out.1
      exact ⟨by omega, by omega⟩
    have hL5 : X < wD.heap.size ∧ r2 < wD.heap.size := by
      have h1 := H4.out.box.lt; have h2 := HX.out; have h4 := H4.out.rows.l1.2.2.1; have h5 := H4.out.rows.le; have h6 := HR2.out.1
      exact ⟨by omega, by omega⟩
    have hH6 : w6.cell? ⟨Kw, 0, none⟩ = some (.pointer (some ⟨X, 0, none⟩)) ∧ w6.cell? ⟨X, 20, none⟩ = some (.func (.func 87) #[] #[.pointer (some ⟨N, 0, none⟩)]) ∧ w6.cell? ⟨K0, 2, none⟩ = some (.int .i64 a) ∧ w6.cell? ⟨X, 8, none⟩ = some (.slice (some ⟨r2, 0, none⟩) sn ac) ∧ w6.cell? ⟨r2, q, none⟩ = some (.pointer (some ⟨mb, 0, none⟩)) := ⟨(t6.cell (p := ⟨Kw, 0, none⟩) B4.out.2.1.lt HK5.out.2.1.1).trans hHeld.1, (t6.cell (p := ⟨X, 20, none⟩) hL5.1 hX5.1).trans hHeld.2.1, (t6.cell (p := ⟨K0, 2, none⟩) B4.out.2.2.1.lt HK5.out.2.1.2).trans hHeld.2.2.1, (t6.cell (p := ⟨X, 8, none⟩) hL5.1 hX5.1).trans hHeld.2.2.2.1, (t6.cell (p := ⟨r2, q, none⟩) hL5.2 hX5.2).trans hHeld.2.2.2.2⟩
    have H6 := Lib.hid (And.intro hfit (And.intro hn6 t6))
    clear hb hfit hn6 t6 hHeld hX5 hL5
    refine hK.out _ _ hH6 (fun hHeld => ?_)
    clear hK K hH6
    refine wpAnyH_done (by kernel_rfl) ?_ _
    clear hHeld
    go_wp2_with fail
    go_end0
    obtain ⟨R', h1, h2⟩ := S3.out.2.2.2.2
    refine ⟨(S3.out.1.trans SD.out.turn).trans (H6.out.2.2.mono fun _ _ e => .inl e), .inl ⟨⟨⟨by omega, by have := HQ.out.2; omega⟩, H6.out.1⟩, rfl, H6.out.2.1, R', ?_, h2⟩⟩
    exact (h1.keep SD.out (fun e => e)).keep H6.out.2.2 (fun e => HK5.out.1.2.1.2.1 e)
end Go.Proofs.YtglalgjffkoneaaGreatDoor
/- choose, all of it. -/
namespace Go.Proofs.YtglalgjffkoneaaGreatDoor
set_option linter.unusedVariables false
set_option linter.unusedSimpArgs false
open Go.ChangeShapes Go.WideShapes Go.ChangeAt Go.RowKit
open Vf (K nth nth_nat tyAt atK isK numT oneT le beginK tsub RowK FitsK CalledK resT ObjK keepK KeepsK setK hasK)
set_option maxRecDepth 100000 in
set_option maxHeartbeats 8000000 in
theorem choose_any (c : WkC) (x : M.Ins) (hop : x.op = 20) (w : World) (f : M.Fn) (g : FV) (fi bi ii : Int) (N r T Y : Nat) (l : List (Option Nat)) (k : K) (la : Option Addr) (ln lc : Nat) (ma : Option Addr) (mn mc : Nat) (va : Option Addr) (vn vc : Nat) (h : WkAt c w f g fi bi ii N r T Y l k) (hx : InsIs c.B w [.int .i64 20, .int .i64 x.d, .int .i64 x.a, .int .i64 x.b, .int .i64 x.c, .int .i64 x.n, .slice la ln lc, .slice ma mn mc, .slice va vn vc] x) :
    Calls Tryz.prog 136 #[.pointer (some ⟨c.X, 0, none⟩), .agg #[.int .i64 20, .int .i64 x.d, .int .i64 x.a, .int .i64 x.b, .int .i64 x.c, .int .i64 x.n, .slice la ln lc, .slice ma mn mc, .slice va vn vc]] w (StepR c f N r k x w) := by
  obtain ⟨op, d, a, b, cc, xn, L, Mw, V⟩ := x
  dsimp only at hop hx ⊢
  subst hop
  have HH := Lib.hid h
  have HQ : Hid ((ln ≤ maxLen ∧ mn ≤ maxLen) ∧ Ints c.B w la ln L ∧ Ints c.B w ma mn Mw) := ⟨⟨hx.rows3.1.2, hx.rows3.2.1.2⟩, hx.rows3.1.1, hx.rows3.2.1.1⟩
  have HNE : Hid (Vf.Needs c.m f k ⟨20, d, a, b, cc, xn, L, Mw, V⟩ = (∃ t, atK k a = some t ∧ Vf.WaysK L (fun n bl => Vf.Is63 n ∧ FitsK c.m f (setK k a numT) bl) ∧ (b ≠ -1 → FitsK c.m f (setK k a numT) b) ∧ Vf.WaysK Mw (fun s bl => (0 ≤ s ∧ s < c.m.shapes.length) ∧ FitsK c.m f (setK k a (oneT s)) bl) ∧ (t.imm = true → b ≠ -1) ∧ ∀ s ∈ t.shapes, s ∈ Vf.evens Mw)) := by show _ = _; rfl
  have HNX : Hid (Vf.next c.m k ⟨20, d, a, b, cc, xn, L, Mw, V⟩ = k) := by show _ = _; rfl
  obtain ⟨X, hX⟩ : ∃ X, c.X = X := ⟨_, rfl⟩
  have HX := Lib.hid hX
  have S1 : Hid (Still w ((w.alloc (.cells #[.pointer (some ⟨X, 0, none⟩)] 55)).alloc (.cells #[.int .i64 20, .int .i64 d, .int .i64 a, .int .i64 b, .int .i64 cc, .int .i64 xn, .slice la ln lc, .slice ma mn mc, .slice va vn vc] 36)) ∧ Blk ((w.alloc (.cells #[.pointer (some ⟨X, 0, none⟩)] 55)).alloc (.cells #[.int .i64 20, .int .i64 d, .int .i64 a, .int .i64 b, .int .i64 cc, .int .i64 xn, .slice la ln lc, .slice ma mn mc, .slice va vn vc] 36)) w.heap.size 55 #[.pointer (some ⟨X, 0, none⟩)] ∧ Blk ((w.alloc (.cells #[.pointer (some ⟨X, 0, none⟩)] 55)).alloc (.cells #[.int .i64 20, .int .i64 d, .int .i64 a, .int .i64 b, .int .i64 cc, .int .i64 xn, .slice la ln lc, .slice ma mn mc, .slice va vn vc] 36)) (w.heap.size + 1) 36 #[.int .i64 20, .int .i64 d, .int .i64 a, .int .i64 b, .int .i64 cc, .int .i64 xn, .slice la ln lc, .slice ma mn mc, .slice va vn vc]) := by
    refine ⟨((Still.refl w).alloc _).alloc _, (Blk.new w _ _).alloc _, ?_⟩
    have h1 := Blk.new (w.alloc (.cells #[.pointer (some ⟨X, 0, none⟩)] 55)) 36 #[.int .i64 20, .int .i64 d, .int .i64 a, .int .i64 b, .int .i64 cc, .int .i64 xn, .slice la ln lc, .slice ma mn mc, .slice va vn vc]
    rwa [show (w.alloc (.cells #[.pointer (some ⟨X, 0, none⟩)] 55)).heap.size = w.heap.size + 1 by simp] at h1
  rw [hX]
  clear h hx hX
  go_enter Tryz.func136, Tryz.ntmps136
  go_wp2_with fail
  generalize (w.alloc (.cells #[.pointer (some ⟨X, 0, none⟩)] 55)).alloc (.cells #[.int .i64 20, .int .i64 d, .int .i64 a, .int .i64 b, .int .i64 cc, .int .i64 xn, .slice la ln lc, .slice ma mn mc, .slice va vn vc] 36) = w1 at S1 ⊢
  obtain ⟨Kw, hKw⟩ : ∃ Kw, w.heap.size = Kw := ⟨_, rfl⟩
  obtain ⟨K0, hK0⟩ : ∃ K0, w.heap.size + 1 = K0 := ⟨_, rfl⟩
  have HKK : Hid (w.heap.size = Kw ∧ K0 = Kw + 1) := ⟨hKw, by omega⟩
  rw [hK0, hKw] at S1
  rw [hK0, hKw]
  clear hK0 hKw
  obtain ⟨wD, hwD⟩ : ∃ wD, w1.drew = wD := ⟨_, rfl⟩
  have SD : Hid (Still w1 wD) := by rw [← hwD]; exact (Still.refl w1).drew
  have S2 : Hid (Still w wD ∧ Blk wD Kw 55 #[.pointer (some ⟨X, 0, none⟩)] ∧ Blk wD K0 36 #[.int .i64 20, .int .i64 d, .int .i64 a, .int .i64 b, .int .i64 cc, .int .i64 xn, .slice la ln lc, .slice ma mn mc, .slice va vn vc]) := ⟨S1.out.1.trans SD.out, SD.out.blk S1.out.2.1, SD.out.blk S1.out.2.2⟩
  have H2 := Lib.hid (HH.out.still S2.out.1)
  have hS0 : wD.cell? ⟨Kw, 0, none⟩ = some (.pointer (some ⟨X, 0, none⟩)) ∧ wD.cell? ⟨X, 18, none⟩ = some (.func (.func 84) #[] #[.pointer (some ⟨N, 0, none⟩)]) ∧ wD.cell? ⟨K0, 2, none⟩ = some (.int .i64 a) := ⟨S2.out.2.1.cell 0, by rw [← HX.out]; exact H2.out.box.cell 18, S2.out.2.2.cell 2⟩
  have henter1 : ∀ (args : Array Value) (W : World), (callFunc 84 args).run Tryz.prog W = .ok (.enter 84 args) W := enters_of Tryz.func84 (by kernel_rfl) rfl
  refine wp_region_held_drew (S := fun W => W.cell? ⟨Kw, 0, none⟩ = some (.pointer (some ⟨X, 0, none⟩)) ∧ W.cell? ⟨X, 18, none⟩ = some (.func (.func 84) #[] #[.pointer (some ⟨N, 0, none⟩)]) ∧ W.cell? ⟨K0, 2, none⟩ = some (.int .i64 a)) (by kernel_rfl) (by rw [hwD]; exact hS0) (fun hHeld => ?_)
  try simp only [Act.put, List.getElem_toArray, List.getElem_cons_succ, List.getElem_cons_zero, List.setIfInBounds_toArray, List.set_cons_zero, List.set_cons_succ]
  rw [hwD] at hHeld ⊢
  clear hwD hS0
  refine wpAnyH_take (i := 0) (v := ?_) rfl (by kernel_rfl) (by kernel_rfl) (by kernel_rfl) (fun _ _ _ h => h) (Or.inl ⟨by rfl, ?_⟩) (by assumption) ?_
  rotate_left
  · intro w hSw; (try dsimp only at hSw); go_simp; try with_reducible rfl
  try simp only [Act.put, List.getElem_toArray, List.getElem_cons_succ, List.getElem_cons_zero, List.setIfInBounds_toArray, List.set_cons_zero, List.set_cons_succ]
  refine wpAnyH_take (i := 1) (v := ?_) rfl (by kernel_rfl) (by kernel_rfl) (by kernel_rfl) (fun _ _ _ h => h) (Or.inl ⟨by rfl, ?_⟩) (by assumption) ?_
  rotate_left
  · intro w hSw; (try dsimp only at hSw); go_simp; try with_reducible rfl
  try simp only [Act.put, List.getElem_toArray, List.getElem_cons_succ, List.getElem_cons_zero, List.setIfInBounds_toArray, List.set_cons_zero, List.set_cons_succ]
  refine wpAnyH_take (i := 2) (v := ?_) rfl (by kernel_rfl) (by kernel_rfl) (by kernel_rfl) (fun _ _ _ h => h) (Or.inl ⟨by rfl, ?_⟩) (by assumption) ?_
  rotate_left
  · intro w hSw; (try dsimp only at hSw); go_simp; try with_reducible rfl
  try simp only [Act.put, List.getElem_toArray, List.getElem_cons_succ, List.getElem_cons_zero, List.setIfInBounds_toArray, List.set_cons_zero, List.set_cons_succ]
  refine wpAnyH_take (i := 3) (v := ?_) rfl (by kernel_rfl) (by kernel_rfl) (by kernel_rfl) (fun _ _ _ h => h) (Or.inl ⟨by rfl, ?_⟩) (by assumption) ?_
  rotate_left
  · intro w hSw; (try dsimp only at hSw); go_simp; try with_reducible rfl
  try simp only [Act.put, List.getElem_toArray, List.getElem_cons_succ, List.getElem_cons_zero, List.setIfInBounds_toArray, List.set_cons_zero, List.set_cons_succ]
  refine wpAnyH_take (i := 4) (v := ?_) rfl (by kernel_rfl) (by kernel_rfl) (by kernel_rfl) (fun _ _ _ h => h) (Or.inl ⟨by rfl, ?_⟩) (by assumption) ?_
  rotate_left
  · intro w hSw; (try dsimp only at hSw); go_simp; try with_reducible rfl
  try simp only [Act.put, List.getElem_toArray, List.getElem_cons_succ, List.getElem_cons_zero, List.setIfInBounds_toArray, List.set_cons_zero, List.set_cons_succ]
  refine wpAnyH_take (i := 5) (v := ?_) rfl (by kernel_rfl) (by kernel_rfl) (by kernel_rfl) (fun _ _ _ h => h) (Or.inl ⟨by rfl, ?_⟩) (by assumption) ?_
  rotate_left
  · intro w hSw; (try dsimp only at hSw); go_simp; try with_reducible rfl
  try simp only [Act.put, List.getElem_toArray, List.getElem_cons_succ, List.getElem_cons_zero, List.setIfInBounds_toArray, List.set_cons_zero, List.set_cons_succ]
  refine wpAnyH_take (i := 6) (v := ?_) rfl (by kernel_rfl) (by kernel_rfl) (by kernel_rfl) (fun _ _ _ h => h) (Or.inl ⟨by rfl, ?_⟩) (by assumption) ?_
  rotate_left
  · intro w hSw; (try dsimp only at hSw); go_simp; try with_reducible rfl
  try simp only [Act.put, List.getElem_toArray, List.getElem_cons_succ, List.getElem_cons_zero, List.setIfInBounds_toArray, List.set_cons_zero, List.set_cons_succ]
  refine wpAnyH_ready (rs := [7]) (by kernel_rfl) (by simp) ?_
  refine AllReadyH.cons rfl (fun K hK => ?_) AllReadyH.nil
  go_simp
  refine (typed_any H2.out.now a).mono ?_; rintro e w2 ⟨⟨tb, hb, rfl⟩ | ⟨hb, rfl⟩, hw2⟩ <;> subst w2
  rotate_left
  · refine ⟨rfl, .inr ⟨fun e => ?_, rfl, S2.out.1.turn⟩⟩
    rw [HNE.out] at e
    obtain ⟨t, e1, _⟩ := e
    rcases HH.out.kn.slot a with ⟨_, e2⟩ | ⟨b', t', e2, _⟩
    · rw [e2] at e1; cases e1
    · rw [hb] at e2; cases e2
  obtain ⟨t, hat, htk⟩ : ∃ t, atK k a = some t ∧ TyK w tb t := by
    rcases HH.out.kn.slot a with ⟨e1, _⟩ | ⟨b', t, e1, e2, e3⟩
    · rw [hb] at e1; cases e1
    · rw [hb] at e1
      obtain rfl := Option.some.inj e1
      exact ⟨t, e2, e3⟩
  have HT : Hid (atK k a = some t ∧ TyK w tb t ∧ InT c.m t ∧ hasK k a) := by
    refine ⟨hat, htk, HH.out.inK.at hat, (hasK_iff HH.out.kn a).1 ?_⟩
    rcases slot_cases l a with h1 | ⟨_, _, _, _, _, _, h1⟩
    · rw [slotAt_out h1] at hb; cases hb
    · exact h1
  clear hb hat htk
  refine hK.out _ _ hHeld (fun hHeld => ?_)
  clear hK K
  refine wpAnyH_take (i := 8) (v := ?_) rfl (by kernel_rfl) (by kernel_rfl) (by kernel_rfl) (fun _ _ _ h => h) (Or.inl ⟨by rfl, ?_⟩) (by assumption) ?_
  rotate_left
  · intro w hSw; (try dsimp only at hSw); go_simp; try with_reducible rfl
  try simp only [Act.put, List.getElem_toArray, List.getElem_cons_succ, List.getElem_cons_zero, List.setIfInBounds_toArray, List.set_cons_zero, List.set_cons_succ]
  refine wpAnyH_done (by kernel_rfl) ?_ _
  clear hHeld SD S1
  have d3 := S2.out.2.2.cell 3
  have ld := S2.out.2.2.lt
  by_cases hb : b = -1
  · subst hb
    have HIM : Hid (∀ z : Bool, z = false → ((t.imm = true → z = true) ↔ (t.imm = true → (-1 : Int) ≠ -1))) := fun z e => by rw [e]; simp
    go_wp2_with fail
    clear d3 ld
    have S3 : Hid (Still wD (wD.alloc (.cells #[.bool false, .int .u64 0, .int .u64 0, .int .u64 0, .int .u64 0, .int .u64 0, .int .u64 0, .int .u64 0, .int .u64 0] 106)) ∧ WordsAt (wD.alloc (.cells #[.bool false, .int .u64 0, .int .u64 0, .int .u64 0, .int .u64 0, .int .u64 0, .int .u64 0, .int .u64 0, .int .u64 0] 106)) wD.heap.size false Vf.zero) := ⟨(Still.refl wD).alloc _, ⟨Blk.new wD 106 (wcells false Vf.zero), fun i => by show 0 < 2 ^ 64; decide⟩⟩
    generalize (wD.alloc (.cells #[.bool false, .int .u64 0, .int .u64 0, .int .u64 0, .int .u64 0, .int .u64 0, .int .u64 0, .int .u64 0, .int .u64 0] 106)) = w3 at S3 ⊢
    obtain ⟨K5, hK5⟩ : ∃ K5, wD.heap.size = K5 := ⟨_, rfl⟩
    rw [hK5] at S3
    rw [hK5]
    have HK5 : Hid (w.heap.size ≤ K5 ∧ Kw < K5 ∧ K0 < K5) := by have h1 := S2.out.1.size; have h2 := S2.out.2.1.lt; have h3 := S2.out.2.2.lt; exact ⟨by omega, by omega, by omega⟩
    clear hK5
    obtain ⟨wF, hwF⟩ : ∃ wF, w3.drew = wF := ⟨_, rfl⟩
    have SF : Hid (Still wD wF ∧ Still w wF ∧ WordsAt wF K5 false Vf.zero) := by rw [← hwF]; exact ⟨S3.out.1.drew, S2.out.1.trans S3.out.1.drew, S3.out.2.keep (Still.refl w3).drew (fun e => e)⟩
    have BF : Hid (Blk wF Kw 55 #[.pointer (some ⟨X, 0, none⟩)] ∧ Blk wF K0 36 #[.int .i64 20, .int .i64 d, .int .i64 a, .int .i64 (-1), .int .i64 cc, .int .i64 xn, .slice la ln lc, .slice ma mn mc, .slice va vn vc]) := ⟨SF.out.1.blk S2.out.2.1, SF.out.1.blk S2.out.2.2⟩
    have HF := Lib.hid (HH.out.still SF.out.2.1)
    obtain ⟨b0, hb0⟩ : ∃ b0, c.b0 = b0 := ⟨_, rfl⟩
    have HB0 : Hid (TyK wF b0 numT) := by rw [← hb0]; exact num_tyk HF.out.rows
    have hSF : wF.cell? ⟨Kw, 0, none⟩ = some (.pointer (some ⟨X, 0, none⟩)) ∧ wF.cell? ⟨X, 20, none⟩ = some (.func (.func 87) #[] #[.pointer (some ⟨N, 0, none⟩)]) ∧ wF.cell? ⟨K0, 2, none⟩ = some (.int .i64 a) ∧ wF.cell? ⟨X, 9, none⟩ = some (.pointer (some ⟨b0, 0, none⟩)) := ⟨BF.out.1.cell 0, by rw [← HX.out]; exact HF.out.box.cell 20, BF.out.2.cell 2, by rw [← HX.out, ← hb0]; exact HF.out.box.cell 9⟩
    have henter3 : ∀ (args : Array Value) (W : World), (callFunc 87 args).run Tryz.prog W = .ok (.enter 87 args) W := enters_of Tryz.func87 (by kernel_rfl) rfl
    have hent1 : Hid (∀ (args : Array Value) (W : World), (callFunc 158 args).run Tryz.prog W = .ok (.enter 158 args) W) := enters_of Tryz.func158 (by kernel_rfl) rfl
    have hent2 : Hid (∀ (args : Array Value) (W : World), (callFunc 161 args).run Tryz.prog W = .ok (.enter 161 args) W) := enters_of Tryz.func161 (by kernel_rfl) rfl
    have hmf : ∀ (fn : Fn) (first cap : Array Value) (w : World), (Instr.makeFunc fn first cap).run Tryz.prog w = .ok (.func fn first cap) w := fun _ _ _ _ => rfl
    have HKR : Hid (Kw ≠ r ∧ K0 ≠ r ∧ X ≠ r ∧ K5 ≠ r ∧ K5 ≠ N ∧ K5 ≠ T ∧ K5 ≠ Y) := by
      have h1 := HKK.out; have h2 := HH.out.now.row.lt; have h3 := HH.out.far; have h4 := HH.out.rows.le; have h5 := HX.out; have h6 := HK5.out
      have h7 := HH.out.now.box.lt; have h8 := HH.out.typed.lt; have h9 := HH.out.types.lt
      exact ⟨by omega, by omega, by omega, by omega, by omega, by omega, by omega⟩
    have HWI := Lib.hid (with_any (P := Vf.WaysK L (fun n bl => Vf.Is63 n ∧ FitsK c.m f (setK k a numT) bl) ∧ ((-1) ≠ -1 → FitsK c.m f (setK k a numT) (-1))) HF.out.now HF.out.ne.2.1 a (some b0) 158 #[] #[.pointer (some ⟨K0, 0, none⟩), .pointer (some ⟨Kw, 0, none⟩)] hent1.out (fun W hn t => by
      have hk1 := (HF.out.kn.keep t (fun b im R hb e => HF.out.now.words b im R hb (.inr e))).set (i := a.toNat) (HB0.out.keep t (fun e => HF.out.now.words _ _ _ HB0.out.1 (.inr e)))
      have hin1 : InK c.m (setK k a numT) := HF.out.inK.set a (inT_num c.m)
      have hwk := HF.out.step hn hk1 hin1 (.inl rfl) (t.mono fun _ _ e => .inr e)
      have tw : Turn (fun j => j = r) w W := (SF.out.2.1.turn).trans t
      refine choose1_any c hwk (Kw := Kw) (K0 := K0) ?_ (BF.out.2.keep t HKR.out.2.1) (HQ.out.2.1.keep (tw.below (by have := HH.out.rows.le; omega) fun j e => by have e2 : j = r := e; have h1 := HH.out.far; have h2 := HH.out.rows.le; omega) (by have := HH.out.rows.le; omega)) HQ.out.1.1
      rw [HX.out]
      exact BF.out.1.keep t HKR.out.1))
    clear hb0
    go_wp2_with fail
    refine wp_region_held_drew (S := fun W => W.cell? ⟨Kw, 0, none⟩ = some (.pointer (some ⟨X, 0, none⟩)) ∧ W.cell? ⟨X, 20, none⟩ = some (.func (.func 87) #[] #[.pointer (some ⟨N, 0, none⟩)]) ∧ W.cell? ⟨K0, 2, none⟩ = some (.int .i64 a) ∧ W.cell? ⟨X, 9, none⟩ = some (.pointer (some ⟨b0, 0, none⟩))) (by kernel_rfl) (by rw [hwF]; exact hSF) (fun hHeld => ?_)
    try simp only [Act.put, List.getElem_toArray, List.getElem_cons_succ, List.getElem_cons_zero, List.setIfInBounds_toArray, List.set_cons_zero, List.set_cons_succ]
    rw [hwF] at hHeld ⊢
    clear hwF hSF
    refine wpAnyH_take (i := 0) (v := ?_) rfl (by kernel_rfl) (by kernel_rfl) (by kernel_rfl) (fun _ _ _ h => h) (Or.inl ⟨by rfl, ?_⟩) (by assumption) ?_
    rotate_left
    · intro w hSw; (try dsimp only at hSw); go_simp; try with_reducible rfl
    try simp only [Act.put, List.getElem_toArray, List.getElem_cons_succ, List.getElem_cons_zero, List.setIfInBounds_toArray, List.set_cons_zero, List.set_cons_succ]
    refine wpAnyH_take (i := 1) (v := ?_) rfl (by kernel_rfl) (by kernel_rfl) (by kernel_rfl) (fun _ _ _ h => h) (Or.inl ⟨by rfl, ?_⟩) (by assumption) ?_
    rotate_left
    · intro w hSw; (try dsimp only at hSw); go_simp; try with_reducible rfl
    try simp only [Act.put, List.getElem_toArray, List.getElem_cons_succ, List.getElem_cons_zero, List.setIfInBounds_toArray, List.set_cons_zero, List.set_cons_succ]
    refine wpAnyH_take (i := 2) (v := ?_) rfl (by kernel_rfl) (by kernel_rfl) (by kernel_rfl) (fun _ _ _ h => h) (Or.inl ⟨by rfl, ?_⟩) (by assumption) ?_
    rotate_left
    · intro w hSw; (try dsimp only at hSw); go_simp; try with_reducible rfl
    try simp only [Act.put, List.getElem_toArray, List.getElem_cons_succ, List.getElem_cons_zero, List.setIfInBounds_toArray, List.set_cons_zero, List.set_cons_succ]
    refine wpAnyH_take (i := 3) (v := ?_) rfl (by kernel_rfl) (by kernel_rfl) (by kernel_rfl) (fun _ _ _ h => h) (Or.inl ⟨by rfl, ?_⟩) (by assumption) ?_
    rotate_left
    · intro w hSw; (try dsimp only at hSw); go_simp; try with_reducible rfl
    try simp only [Act.put, List.getElem_toArray, List.getElem_cons_succ, List.getElem_cons_zero, List.setIfInBounds_toArray, List.set_cons_zero, List.set_cons_succ]
    refine wpAnyH_take (i := 4) (v := ?_) rfl (by kernel_rfl) (by kernel_rfl) (by kernel_rfl) (fun _ _ _ h => h) (Or.inl ⟨by rfl, ?_⟩) (by assumption) ?_
    rotate_left
    · intro w hSw; (try dsimp only at hSw); go_simp; try with_reducible rfl
    try simp only [Act.put, List.getElem_toArray, List.getElem_cons_succ, List.getElem_cons_zero, List.setIfInBounds_toArray, List.set_cons_zero, List.set_cons_succ]
    refine wpAnyH_take (i := 5) (v := ?_) rfl (by kernel_rfl) (by kernel_rfl) (by kernel_rfl) (fun _ _ _ h => h) (Or.inl ⟨by rfl, ?_⟩) (by assumption) ?_
    rotate_left
    · intro w hSw; (try dsimp only at hSw); go_simp; try with_reducible rfl
    try simp only [Act.put, List.getElem_toArray, List.getElem_cons_succ, List.getElem_cons_zero, List.setIfInBounds_toArray, List.set_cons_zero, List.set_cons_succ]
    refine wpAnyH_take (i := 6) (v := ?_) rfl (by kernel_rfl) (by kernel_rfl) (by kernel_rfl) (fun _ _ _ h => h) (Or.inl ⟨by rfl, ?_⟩) (by assumption) ?_
    rotate_left
    · intro w hSw; (try dsimp only at hSw); go_simp; try with_reducible rfl
    try simp only [Act.put, List.getElem_toArray, List.getElem_cons_succ, List.getElem_cons_zero, List.setIfInBounds_toArray, List.set_cons_zero, List.set_cons_succ]
    refine wpAnyH_take (i := 7) (v := ?_) rfl (by kernel_rfl) (by kernel_rfl) (by kernel_rfl) (fun _ _ _ h => h) (Or.inl ⟨by rfl, ?_⟩) (by assumption) ?_
    rotate_left
    · intro w hSw; (try dsimp only at hSw); go_simp; try with_reducible rfl
    try simp only [Act.put, List.getElem_toArray, List.getElem_cons_succ, List.getElem_cons_zero, List.setIfInBounds_toArray, List.set_cons_zero, List.set_cons_succ]
    refine wpAnyH_take (i := 8) (v := ?_) rfl (by kernel_rfl) (by kernel_rfl) (by kernel_rfl) (fun _ _ _ h => h) (Or.inl ⟨by rfl, ?_⟩) (by assumption) ?_
    rotate_left
    · intro w hSw; (try dsimp only at hSw); go_simp; try with_reducible rfl
    try simp only [Act.put, List.getElem_toArray, List.getElem_cons_succ, List.getElem_cons_zero, List.setIfInBounds_toArray, List.set_cons_zero, List.set_cons_succ]
    refine wpAnyH_take (i := 9) (v := ?_) rfl (by kernel_rfl) (by kernel_rfl) (by kernel_rfl) (fun _ _ _ h => h) (Or.inl ⟨by rfl, ?_⟩) (by assumption) ?_
    rotate_left
    · intro w hSw; (try dsimp only at hSw); go_simp; try with_reducible rfl
    try simp only [Act.put, List.getElem_toArray, List.getElem_cons_succ, List.getElem_cons_zero, List.setIfInBounds_toArray, List.set_cons_zero, List.set_cons_succ]
    refine wpAnyH_take (i := 10) (v := ?_) rfl (by kernel_rfl) (by kernel_rfl) (by kernel_rfl) (fun _ _ _ h => h) (Or.inl ⟨by rfl, ?_⟩) (by assumption) ?_
    rotate_left
    · intro w hSw; (try dsimp only at hSw); go_simp; try with_reducible rfl
    try simp only [Act.put, List.getElem_toArray, List.getElem_cons_succ, List.getElem_cons_zero, List.setIfInBounds_toArray, List.set_cons_zero, List.set_cons_succ]
    refine wpAnyH_take (i := 11) (v := ?_) rfl (by kernel_rfl) (by kernel_rfl) (by kernel_rfl) (fun _ _ _ h => h) (Or.inl ⟨by rfl, ?_⟩) (by assumption) ?_
    rotate_left
    · intro w hSw; (try dsimp only at hSw); go_simp; try with_reducible rfl
    try simp only [Act.put, List.getElem_toArray, List.getElem_cons_succ, List.getElem_cons_zero, List.setIfInBounds_toArray, List.set_cons_zero, List.set_cons_succ]
    refine wpAnyH_ready (rs := [12]) (by kernel_rfl) (by simp) ?_
    refine AllReadyH.cons rfl (fun K hK => ?_) AllReadyH.nil
    go_simp
    refine HWI.out.mono ?_; rintro e w6 (⟨hb, hP, rfl, hn6, t6⟩ | ⟨hno, rfl, t6⟩)
    rotate_left
    · refine ⟨rfl, .inr ⟨fun e => hno ?_, rfl, SF.out.2.1.turn.trans (t6.mono fun _ _ e => .inr e)⟩⟩
      rw [HNE.out] at e
      obtain ⟨t', e1, e2, e3, _⟩ := e
      exact ⟨(hasK_iff HH.out.kn a).2 HT.out.2.2.2, e2, e3⟩
    have hL5 : X < wF.heap.size := by have h1 := HF.out.box.lt; have h2 := HX.out; omega
    have hH6 : w6.cell? ⟨Kw, 0, none⟩ = some (.pointer (some ⟨X, 0, none⟩)) ∧ w6.cell? ⟨X, 20, none⟩ = some (.func (.func 87) #[] #[.pointer (some ⟨N, 0, none⟩)]) ∧ w6.cell? ⟨K0, 2, none⟩ = some (.int .i64 a) ∧ w6.cell? ⟨X, 9, none⟩ = some (.pointer (some ⟨b0, 0, none⟩)) := ⟨(t6.cell (p := ⟨Kw, 0, none⟩) BF.out.1.lt HKR.out.1).trans hHeld.1, (t6.cell (p := ⟨X, 20, none⟩) hL5 HKR.out.2.2.1).trans hHeld.2.1, (t6.cell (p := ⟨K0, 2, none⟩) BF.out.2.lt HKR.out.2.1).trans hHeld.2.2.1, (t6.cell (p := ⟨X, 9, none⟩) hL5 HKR.out.2.2.1).trans hHeld.2.2.2⟩
    have H6 : Hid ((Vf.WaysK L (fun n bl => Vf.Is63 n ∧ FitsK c.m f (setK k a numT) bl) ∧ ((-1) ≠ -1 → FitsK c.m f (setK k a numT) (-1))) ∧ NowAt w6 N r l ∧ Turn (fun j => j = r) w w6 ∧ Blk w6 Kw 55 #[.pointer (some ⟨X, 0, none⟩)] ∧ Blk w6 K0 36 #[.int .i64 20, .int .i64 d, .int .i64 a, .int .i64 (-1), .int .i64 cc, .int .i64 xn, .slice la ln lc, .slice ma mn mc, .slice va vn vc] ∧ WordsAt w6 K5 false Vf.zero) := ⟨hP, hn6, SF.out.2.1.turn.trans t6, BF.out.1.keep t6 HKR.out.1, BF.out.2.keep t6 HKR.out.2.1, SF.out.2.2.keep t6 (fun e => HKR.out.2.2.2.1 e)⟩
    clear hb hP hn6 t6 hHeld hL5
    refine hK.out _ _ hH6 (fun hHeld => ?_)
    clear hK K hH6
    refine wpAnyH_done (by kernel_rfl) ?_ _
    clear hHeld
    have HTW : Hid (∀ {W : World}, Turn (fun j => j = r ∨ j = K5) w6 W → Turn (fun j => j = N ∨ j = r) w W) := fun {W} t => ((H6.out.2.2.1.mono fun j _ e => .inl (.inr e)).trans (t.mono fun j _ e => e.elim (fun e => .inl (.inr e)) fun e => .inr (by have := HK5.out.1; omega))).mono (S := fun j => (j = N ∨ j = r) ∨ w.heap.size ≤ j) fun j hj e => e.elim id fun e => by omega
    have HWY := Lib.hid (ways_any (B := c.B) (w := w6) (c := mc) (xs := Mw) (HQ.out.2.2.keep (H6.out.2.2.1.below (by have := HH.out.rows.le; omega) fun j e => by have e2 : j = r := e; have h1 := HH.out.far; have h2 := HH.out.rows.le; omega) (by have := HH.out.rows.le; omega)) HQ.out.1.2 (fun j => j = r ∨ j = K5) (fun s bl => (0 ≤ s ∧ s < c.m.shapes.length) ∧ FitsK c.m f (setK k a (oneT s)) bl) (fun i W => NowAt W N r l ∧ ∃ R, WordsAt W K5 false R ∧ ∀ y : Nat, Vf.has R y = true ↔ ∃ j, j < i ∧ Mw.getD (2 * j) 0 = (y : Int)) 161 #[] #[.pointer (some ⟨Kw, 0, none⟩), .pointer (some ⟨K5, 0, none⟩), .pointer (some ⟨K0, 0, none⟩)] hent2.out
      (fun j e => by have h1 := HH.out.far; have h2 := HH.out.rows.le; have h3 := HK5.out.1; rcases e with e | e <;> omega) (by have h1 := HH.out.rows.le; have h2 := H6.out.2.2.1.size; omega)
      (fun i W W' hj st => ⟨hj.1.keep st (fun e => e) (fun e => e), by obtain ⟨R, h1, h2⟩ := hj.2; exact ⟨R, h1.keep st (fun e => e), h2⟩⟩)
      (fun i W hi t hj => by
        obtain ⟨hn, R, hR, hRx⟩ := hj
        have tw := HTW.out t
        have hkn : Kn W l k := HH.out.kn.keep tw (fun b im R hb e => HH.out.now.words b im R hb e)
        have hwk := HH.out.step hn hkn HH.out.inK (.inl rfl) tw
        have hkS : ¬ (Kw = r ∨ Kw = K5) ∧ ¬ (K0 = r ∨ K0 = K5) := by have h1 := HKR.out; have h2 := HK5.out; exact ⟨by omega, by omega⟩
        refine (choose2_any c hwk (Kw := Kw) (K0 := K0) (K5 := K5) (by rw [HX.out]; exact H6.out.2.2.2.1.keep t hkS.1) (H6.out.2.2.2.2.1.keep t hkS.2) hR ⟨by have h1 := HH.out.rows.le; have h2 := HK5.out.1; omega, ⟨HKR.out.2.2.2.2.1, HKR.out.2.2.2.1, HKR.out.2.2.2.2.2.1, HKR.out.2.2.2.2.2.2⟩, fun i e => by have h1 := HH.out.kn.lt e; have h2 := HK5.out.1; omega⟩ ⟨HKR.out.1, HKR.out.2.1⟩ HT.out.2.2.2 (Mw.getD (2 * i) 0) (Mw.getD (2 * i + 1) 0)).mono ?_
        rintro e w' ⟨t', ⟨h1, h2, h3, R', h4, h5⟩ | ⟨h1, h2⟩⟩
        · refine ⟨t', .inl ⟨h1, h2, h3, R', h4, fun y => ?_⟩⟩
          rw [h5 y, Bool.or_eq_true, hRx y, decide_eq_true_eq]
          constructor
          · rintro (⟨j, e1, e2⟩ | e1)
            · exact ⟨j, by omega, e2⟩
            · exact ⟨i, by omega, e1.symm⟩
          · rintro ⟨j, e1, e2⟩
            by_cases hji : j < i
            · exact .inl ⟨j, hji, e2⟩
            · obtain rfl : j = i := by omega
              exact .inr e2.symm
        · exact ⟨t', .inr ⟨h1, h2⟩⟩)
      ⟨H6.out.2.1, Vf.zero, H6.out.2.2.2.2.2, fun y => by rw [Vf.has_zero]; constructor
                                                          · intro e; cases e
                                                          · rintro ⟨j, e, _⟩; omega⟩)
    have d7 := H6.out.2.2.2.2.1.cell 7
    have ld := H6.out.2.2.2.2.1.lt
    go_wp2_with fail
    clear d7 ld
    refine HWY.out.mono ?_; rintro e w8 ⟨t8, ⟨hq, rfl, hn8, R, hR, hRx⟩ | ⟨hq, rfl⟩⟩
    rotate_left
    · refine ⟨rfl, .inr ⟨fun e => hq ?_, rfl, HTW.out t8⟩⟩
      rw [HNE.out] at e
      obtain ⟨t', e1, e2, e3, e4, _⟩ := e
      exact e4
    have T8 : Hid (Turn (fun j => j = N ∨ j = r) w w8 ∧ NowAt w8 N r l ∧ Vf.WaysK Mw (fun s bl => (0 ≤ s ∧ s < c.m.shapes.length) ∧ FitsK c.m f (setK k a (oneT s)) bl)) := ⟨HTW.out t8, hn8, hq⟩
    have htw := HT.out.2.1.keep T8.out.1 (fun e => HH.out.now.words _ _ _ HT.out.2.1.1 e)
    have HWS := Lib.hid (within_any htw.1 hR)
    have HSUB : Hid (WSub t.imm (ofL t.shapes) false R ↔ (t.imm = true → (-1) ≠ -1) ∧ ∀ s ∈ t.shapes, s ∈ Vf.evens Mw) := by
      show _ ↔ _
      unfold WSub
      refine and_congr (HIM.out _ rfl) ⟨fun h s hs => ?_, fun h y hy hys => ?_⟩
      · have h1 := HT.out.2.1.2 s hs
        obtain ⟨j, rfl⟩ := Int.eq_ofNat_of_zero_le h1.1
        obtain ⟨i, hi, he⟩ := (hRx j).1 (h j (by omega) ((ofL_mem (fun y hy => (HT.out.2.1.2 y hy).1) j).2 hs))
        exact (mem_evens Mw _).2 ⟨i, by have := hq.1; omega, he⟩
      · obtain ⟨i, hi, he⟩ := (mem_evens Mw _).1 (h _ ((ofL_mem (fun y hy => (HT.out.2.1.2 y hy).1) y).1 hys))
        exact (hRx y).2 ⟨i, by have := hq.1; omega, he⟩
    clear t8 hq hn8 hR hRx htw
    go_wp2_with fail
    refine HWS.out.mono ?_; rintro e w9 ⟨rb, rfl, hrb, t9⟩
    have H9 : Hid ((rb = true ↔ (t.imm = true → (-1) ≠ -1) ∧ ∀ s ∈ t.shapes, s ∈ Vf.evens Mw) ∧ Turn (fun j => j = N ∨ j = r) w w9 ∧ NowAt w9 N r l) := ⟨hrb.trans HSUB.out, T8.out.1.trans t9.turn, T8.out.2.1.keep t9 (fun e => e) (fun e => e)⟩
    clear hrb t9
    cases rb with
    | false =>
      go_wp2_with fail
      refine (need_no _).mono ?_; rintro e w3 ⟨rfl, hw3⟩; subst w3
      refine ⟨rfl, .inr ⟨fun e => ?_, rfl, H9.out.2.1⟩⟩
      rw [HNE.out] at e
      obtain ⟨t', e1, e2, e3, e4, e5⟩ := e
      obtain rfl := Option.some.inj (HT.out.1.symm.trans e1)
      exact absurd (H9.out.1.2 e5) (by decide)
    | true =>
      go_wp2_with fail
      refine (need_yes _).mono ?_; rintro e w3 ⟨rfl, hw3⟩; subst w3
      go_wp2_with fail
      go_end0
      refine .inl ⟨?_, rfl, ⟨r, l, H9.out.2.2, ?_, .inl rfl⟩, H9.out.2.1⟩
      · rw [HNE.out]
        exact ⟨t, HT.out.1, H6.out.1.1, H6.out.1.2, T8.out.2.2, H9.out.1.1 (by first | rfl | trivial)⟩
      · rw [HNX.out]
        exact HH.out.kn.keep H9.out.2.1 (fun b im R hb e => HH.out.now.words b im R hb e)
  · have hbb : (b == -1) = false := beq_eq_false_iff_ne.2 hb
    have hbn : (b != -1) = true := by rw [bne, hbb]; rfl
    have HIM : Hid (∀ z : Bool, z = true → ((t.imm = true → z = true) ↔ (t.imm = true → b ≠ -1))) := fun z e => by rw [e]; simp [hb]
    clear hb
    go_wp2_with fail
    clear d3 ld hbb
    have S3 : Hid (Still wD (wD.alloc (.cells #[.bool true, .int .u64 0, .int .u64 0, .int .u64 0, .int .u64 0, .int .u64 0, .int .u64 0, .int .u64 0, .int .u64 0] 106)) ∧ WordsAt (wD.alloc (.cells #[.bool true, .int .u64 0, .int .u64 0, .int .u64 0, .int .u64 0, .int .u64 0, .int .u64 0, .int .u64 0, .int .u64 0] 106)) wD.heap.size true Vf.zero) := ⟨(Still.refl wD).alloc _, ⟨Blk.new wD 106 (wcells true Vf.zero), fun i => by show 0 < 2 ^ 64; decide⟩⟩
    generalize (wD.alloc (.cells #[.bool true, .int .u64 0, .int .u64 0, .int .u64 0, .int .u64 0, .int .u64 0, .int .u64 0, .int .u64 0, .int .u64 0] 106)) = w3 at S3 ⊢
    obtain ⟨K5, hK5⟩ : ∃ K5, wD.heap.size = K5 := ⟨_, rfl⟩
    rw [hK5] at S3
    rw [hK5]
    have HK5 : Hid (w.heap.size ≤ K5 ∧ Kw < K5 ∧ K0 < K5) := by have h1 := S2.out.1.size; have h2 := S2.out.2.1.lt; have h3 := S2.out.2.2.lt; exact ⟨by omega, by omega, by omega⟩
    clear hK5
    obtain ⟨wF, hwF⟩ : ∃ wF, w3.drew = wF := ⟨_, rfl⟩
    have SF : Hid (Still wD wF ∧ Still w wF ∧ WordsAt wF K5 true Vf.zero) := by rw [← hwF]; exact ⟨S3.out.1.drew, S2.out.1.trans S3.out.1.drew, S3.out.2.keep (Still.refl w3).drew (fun e => e)⟩
    have BF : Hid (Blk wF Kw 55 #[.pointer (some ⟨X, 0, none⟩)] ∧ Blk wF K0 36 #[.int .i64 20, .int .i64 d, .int .i64 a, .int .i64 b, .int .i64 cc, .int .i64 xn, .slice la ln lc, .slice ma mn mc, .slice va vn vc]) := ⟨SF.out.1.blk S2.out.2.1, SF.out.1.blk S2.out.2.2⟩
    have HF := Lib.hid (HH.out.still SF.out.2.1)
    obtain ⟨b0, hb0⟩ : ∃ b0, c.b0 = b0 := ⟨_, rfl⟩
    have HB0 : Hid (TyK wF b0 numT) := by rw [← hb0]; exact num_tyk HF.out.rows
    have hSF : wF.cell? ⟨Kw, 0, none⟩ = some (.pointer (some ⟨X, 0, none⟩)) ∧ wF.cell? ⟨X, 20, none⟩ = some (.func (.func 87) #[] #[.pointer (some ⟨N, 0, none⟩)]) ∧ wF.cell? ⟨K0, 2, none⟩ = some (.int .i64 a) ∧ wF.cell? ⟨X, 9, none⟩ = some (.pointer (some ⟨b0, 0, none⟩)) := ⟨BF.out.1.cell 0, by rw [← HX.out]; exact HF.out.box.cell 20, BF.out.2.cell 2, by rw [← HX.out, ← hb0]; exact HF.out.box.cell 9⟩
    have henter3 : ∀ (args : Array Value) (W : World), (callFunc 87 args).run Tryz.prog W = .ok (.enter 87 args) W := enters_of Tryz.func87 (by kernel_rfl) rfl
    have hent1 : Hid (∀ (args : Array Value) (W : World), (callFunc 158 args).run Tryz.prog W = .ok (.enter 158 args) W) := enters_of Tryz.func158 (by kernel_rfl) rfl
    have hent2 : Hid (∀ (args : Array Value) (W : World), (callFunc 161 args).run Tryz.prog W = .ok (.enter 161 args) W) := enters_of Tryz.func161 (by kernel_rfl) rfl
    have hmf : ∀ (fn : Fn) (first cap : Array Value) (w : World), (Instr.makeFunc fn first cap).run Tryz.prog w = .ok (.func fn first cap) w := fun _ _ _ _ => rfl
    have HKR : Hid (Kw ≠ r ∧ K0 ≠ r ∧ X ≠ r ∧ K5 ≠ r ∧ K5 ≠ N ∧ K5 ≠ T ∧ K5 ≠ Y) := by
      have h1 := HKK.out; have h2 := HH.out.now.row.lt; have h3 := HH.out.far; have h4 := HH.out.rows.le; have h5 := HX.out; have h6 := HK5.out
      have h7 := HH.out.now.box.lt; have h8 := HH.out.typed.lt; have h9 := HH.out.types.lt
      exact ⟨by omega, by omega, by omega, by omega, by omega, by omega, by omega⟩
    have HWI := Lib.hid (with_any (P := Vf.WaysK L (fun n bl => Vf.Is63 n ∧ FitsK c.m f (setK k a numT) bl) ∧ (b ≠ -1 → FitsK c.m f (setK k a numT) b)) HF.out.now HF.out.ne.2.1 a (some b0) 158 #[] #[.pointer (some ⟨K0, 0, none⟩), .pointer (some ⟨Kw, 0, none⟩)] hent1.out (fun W hn t => by
      have hk1 := (HF.out.kn.keep t (fun b im R hb e => HF.out.now.words b im R hb (.inr e))).set (i := a.toNat) (HB0.out.keep t (fun e => HF.out.now.words _ _ _ HB0.out.1 (.inr e)))
      have hin1 : InK c.m (setK k a numT) := HF.out.inK.set a (inT_num c.m)
      have hwk := HF.out.step hn hk1 hin1 (.inl rfl) (t.mono fun _ _ e => .inr e)
      have tw : Turn (fun j => j = r) w W := (SF.out.2.1.turn).trans t
      refine choose1_any c hwk (Kw := Kw) (K0 := K0) ?_ (BF.out.2.keep t HKR.out.2.1) (HQ.out.2.1.keep (tw.below (by have := HH.out.rows.le; omega) fun j e => by have e2 : j = r := e; have h1 := HH.out.far; have h2 := HH.out.rows.le; omega) (by have := HH.out.rows.le; omega)) HQ.out.1.1
      rw [HX.out]
      exact BF.out.1.keep t HKR.out.1))
    clear hb0
    go_wp2_with fail
    refine wp_region_held_drew (S := fun W => W.cell? ⟨Kw, 0, none⟩ = some (.pointer (some ⟨X, 0, none⟩)) ∧ W.cell? ⟨X, 20, none⟩ = some (.func (.func 87) #[] #[.pointer (some ⟨N, 0, none⟩)]) ∧ W.cell? ⟨K0, 2, none⟩ = some (.int .i64 a) ∧ W.cell? ⟨X, 9, none⟩ = some (.pointer (some ⟨b0, 0, none⟩))) (by kernel_rfl) (by rw [hwF]; exact hSF) (fun hHeld => ?_)
    try simp only [Act.put, List.getElem_toArray, List.getElem_cons_succ, List.getElem_cons_zero, List.setIfInBounds_toArray, List.set_cons_zero, List.set_cons_succ]
    rw [hwF] at hHeld ⊢
    clear hwF hSF
    refine wpAnyH_take (i := 0) (v := ?_) rfl (by kernel_rfl) (by kernel_rfl) (by kernel_rfl) (fun _ _ _ h => h) (Or.inl ⟨by rfl, ?_⟩) (by assumption) ?_
    rotate_left
    · intro w hSw; (try dsimp only at hSw); go_simp; try with_reducible rfl
    try simp only [Act.put, List.getElem_toArray, List.getElem_cons_succ, List.getElem_cons_zero, List.setIfInBounds_toArray, List.set_cons_zero, List.set_cons_succ]
    refine wpAnyH_take (i := 1) (v := ?_) rfl (by kernel_rfl) (by kernel_rfl) (by kernel_rfl) (fun _ _ _ h => h) (Or.inl ⟨by rfl, ?_⟩) (by assumption) ?_
    rotate_left
    · intro w hSw; (try dsimp only at hSw); go_simp; try with_reducible rfl
    try simp only [Act.put, List.getElem_toArray, List.getElem_cons_succ, List.getElem_cons_zero, List.setIfInBounds_toArray, List.set_cons_zero, List.set_cons_succ]
    refine wpAnyH_take (i := 2) (v := ?_) rfl (by kernel_rfl) (by kernel_rfl) (by kernel_rfl) (fun _ _ _ h => h) (Or.inl ⟨by rfl, ?_⟩) (by assumption) ?_
    rotate_left
    · intro w hSw; (try dsimp only at hSw); go_simp; try with_reducible rfl
    try simp only [Act.put, List.getElem_toArray, List.getElem_cons_succ, List.getElem_cons_zero, List.setIfInBounds_toArray, List.set_cons_zero, List.set_cons_succ]
    refine wpAnyH_take (i := 3) (v := ?_) rfl (by kernel_rfl) (by kernel_rfl) (by kernel_rfl) (fun _ _ _ h => h) (Or.inl ⟨by rfl, ?_⟩) (by assumption) ?_
    rotate_left
    · intro w hSw; (try dsimp only at hSw); go_simp; try with_reducible rfl
    try simp only [Act.put, List.getElem_toArray, List.getElem_cons_succ, List.getElem_cons_zero, List.setIfInBounds_toArray, List.set_cons_zero, List.set_cons_succ]
    refine wpAnyH_take (i := 4) (v := ?_) rfl (by kernel_rfl) (by kernel_rfl) (by kernel_rfl) (fun _ _ _ h => h) (Or.inl ⟨by rfl, ?_⟩) (by assumption) ?_
    rotate_left
    · intro w hSw; (try dsimp only at hSw); go_simp; try with_reducible rfl
    try simp only [Act.put, List.getElem_toArray, List.getElem_cons_succ, List.getElem_cons_zero, List.setIfInBounds_toArray, List.set_cons_zero, List.set_cons_succ]
    refine wpAnyH_take (i := 5) (v := ?_) rfl (by kernel_rfl) (by kernel_rfl) (by kernel_rfl) (fun _ _ _ h => h) (Or.inl ⟨by rfl, ?_⟩) (by assumption) ?_
    rotate_left
    · intro w hSw; (try dsimp only at hSw); go_simp; try with_reducible rfl
    try simp only [Act.put, List.getElem_toArray, List.getElem_cons_succ, List.getElem_cons_zero, List.setIfInBounds_toArray, List.set_cons_zero, List.set_cons_succ]
    refine wpAnyH_take (i := 6) (v := ?_) rfl (by kernel_rfl) (by kernel_rfl) (by kernel_rfl) (fun _ _ _ h => h) (Or.inl ⟨by rfl, ?_⟩) (by assumption) ?_
    rotate_left
    · intro w hSw; (try dsimp only at hSw); go_simp; try with_reducible rfl
    try simp only [Act.put, List.getElem_toArray, List.getElem_cons_succ, List.getElem_cons_zero, List.setIfInBounds_toArray, List.set_cons_zero, List.set_cons_succ]
    refine wpAnyH_take (i := 7) (v := ?_) rfl (by kernel_rfl) (by kernel_rfl) (by kernel_rfl) (fun _ _ _ h => h) (Or.inl ⟨by rfl, ?_⟩) (by assumption) ?_
    rotate_left
    · intro w hSw; (try dsimp only at hSw); go_simp; try with_reducible rfl
    try simp only [Act.put, List.getElem_toArray, List.getElem_cons_succ, List.getElem_cons_zero, List.setIfInBounds_toArray, List.set_cons_zero, List.set_cons_succ]
    refine wpAnyH_take (i := 8) (v := ?_) rfl (by kernel_rfl) (by kernel_rfl) (by kernel_rfl) (fun _ _ _ h => h) (Or.inl ⟨by rfl, ?_⟩) (by assumption) ?_
    rotate_left
    · intro w hSw; (try dsimp only at hSw); go_simp; try with_reducible rfl
    try simp only [Act.put, List.getElem_toArray, List.getElem_cons_succ, List.getElem_cons_zero, List.setIfInBounds_toArray, List.set_cons_zero, List.set_cons_succ]
    refine wpAnyH_take (i := 9) (v := ?_) rfl (by kernel_rfl) (by kernel_rfl) (by kernel_rfl) (fun _ _ _ h => h) (Or.inl ⟨by rfl, ?_⟩) (by assumption) ?_
    rotate_left
    · intro w hSw; (try dsimp only at hSw); go_simp; try with_reducible rfl
    try simp only [Act.put, List.getElem_toArray, List.getElem_cons_succ, List.getElem_cons_zero, List.setIfInBounds_toArray, List.set_cons_zero, List.set_cons_succ]
    refine wpAnyH_take (i := 10) (v := ?_) rfl (by kernel_rfl) (by kernel_rfl) (by kernel_rfl) (fun _ _ _ h => h) (Or.inl ⟨by rfl, ?_⟩) (by assumption) ?_
    rotate_left
    · intro w hSw; (try dsimp only at hSw); go_simp; try with_reducible rfl
    try simp only [Act.put, List.getElem_toArray, List.getElem_cons_succ, List.getElem_cons_zero, List.setIfInBounds_toArray, List.set_cons_zero, List.set_cons_succ]
    refine wpAnyH_take (i := 11) (v := ?_) rfl (by kernel_rfl) (by kernel_rfl) (by kernel_rfl) (fun _ _ _ h => h) (Or.inl ⟨by rfl, ?_⟩) (by assumption) ?_
    rotate_left
    · intro w hSw; (try dsimp only at hSw); go_simp; try with_reducible rfl
    try simp only [Act.put, List.getElem_toArray, List.getElem_cons_succ, List.getElem_cons_zero, List.setIfInBounds_toArray, List.set_cons_zero, List.set_cons_succ]
    refine wpAnyH_ready (rs := [12]) (by kernel_rfl) (by simp) ?_
    refine AllReadyH.cons rfl (fun K hK => ?_) AllReadyH.nil
    go_simp
    refine HWI.out.mono ?_; rintro e w6 (⟨hb, hP, rfl, hn6, t6⟩ | ⟨hno, rfl, t6⟩)
    rotate_left
    · refine ⟨rfl, .inr ⟨fun e => hno ?_, rfl, SF.out.2.1.turn.trans (t6.mono fun _ _ e => .inr e)⟩⟩
      rw [HNE.out] at e
      obtain ⟨t', e1, e2, e3, _⟩ := e
      exact ⟨(hasK_iff HH.out.kn a).2 HT.out.2.2.2, e2, e3⟩
    have hL5 : X < wF.heap.size := by have h1 := HF.out.box.lt; have h2 := HX.out; omega
    have hH6 : w6.cell? ⟨Kw, 0, none⟩ = some (.pointer (some ⟨X, 0, none⟩)) ∧ w6.cell? ⟨X, 20, none⟩ = some (.func (.func 87) #[] #[.pointer (some ⟨N, 0, none⟩)]) ∧ w6.cell? ⟨K0, 2, none⟩ = some (.int .i64 a) ∧ w6.cell? ⟨X, 9, none⟩ = some (.pointer (some ⟨b0, 0, none⟩)) := ⟨(t6.cell (p := ⟨Kw, 0, none⟩) BF.out.1.lt HKR.out.1).trans hHeld.1, (t6.cell (p := ⟨X, 20, none⟩) hL5 HKR.out.2.2.1).trans hHeld.2.1, (t6.cell (p := ⟨K0, 2, none⟩) BF.out.2.lt HKR.out.2.1).trans hHeld.2.2.1, (t6.cell (p := ⟨X, 9, none⟩) hL5 HKR.out.2.2.1).trans hHeld.2.2.2⟩
    have H6 : Hid ((Vf.WaysK L (fun n bl => Vf.Is63 n ∧ FitsK c.m f (setK k a numT) bl) ∧ (b ≠ -1 → FitsK c.m f (setK k a numT) b)) ∧ NowAt w6 N r l ∧ Turn (fun j => j = r) w w6 ∧ Blk w6 Kw 55 #[.pointer (some ⟨X, 0, none⟩)] ∧ Blk w6 K0 36 #[.int .i64 20, .int .i64 d, .int .i64 a, .int .i64 b, .int .i64 cc, .int .i64 xn, .slice la ln lc, .slice ma mn mc, .slice va vn vc] ∧ WordsAt w6 K5 true Vf.zero) := ⟨hP, hn6, SF.out.2.1.turn.trans t6, BF.out.1.keep t6 HKR.out.1, BF.out.2.keep t6 HKR.out.2.1, SF.out.2.2.keep t6 (fun e => HKR.out.2.2.2.1 e)⟩
    clear hb hP hn6 t6 hHeld hL5
    refine hK.out _ _ hH6 (fun hHeld => ?_)
    clear hK K hH6
    refine wpAnyH_done (by kernel_rfl) ?_ _
    clear hHeld
    have HTW : Hid (∀ {W : World}, Turn (fun j => j = r ∨ j = K5) w6 W → Turn (fun j => j = N ∨ j = r) w W) := fun {W} t => ((H6.out.2.2.1.mono fun j _ e => .inl (.inr e)).trans (t.mono fun j _ e => e.elim (fun e => .inl (.inr e)) fun e => .inr (by have := HK5.out.1; omega))).mono (S := fun j => (j = N ∨ j = r) ∨ w.heap.size ≤ j) fun j hj e => e.elim id fun e => by omega
    have HWY := Lib.hid (ways_any (B := c.B) (w := w6) (c := mc) (xs := Mw) (HQ.out.2.2.keep (H6.out.2.2.1.below (by have := HH.out.rows.le; omega) fun j e => by have e2 : j = r := e; have h1 := HH.out.far; have h2 := HH.out.rows.le; omega) (by have := HH.out.rows.le; omega)) HQ.out.1.2 (fun j => j = r ∨ j = K5) (fun s bl => (0 ≤ s ∧ s < c.m.shapes.length) ∧ FitsK c.m f (setK k a (oneT s)) bl) (fun i W => NowAt W N r l ∧ ∃ R, WordsAt W K5 true R ∧ ∀ y : Nat, Vf.has R y = true ↔ ∃ j, j < i ∧ Mw.getD (2 * j) 0 = (y : Int)) 161 #[] #[.pointer (some ⟨Kw, 0, none⟩), .pointer (some ⟨K5, 0, none⟩), .pointer (some ⟨K0, 0, none⟩)] hent2.out
      (fun j e => by have h1 := HH.out.far; have h2 := HH.out.rows.le; have h3 := HK5.out.1; rcases e with e | e <;> omega) (by have h1 := HH.out.rows.le; have h2 := H6.out.2.2.1.size; omega)
      (fun i W W' hj st => ⟨hj.1.keep st (fun e => e) (fun e => e), by obtain ⟨R, h1, h2⟩ := hj.2; exact ⟨R, h1.keep st (fun e => e), h2⟩⟩)
      (fun i W hi t hj => by
        obtain ⟨hn, R, hR, hRx⟩ := hj
        have tw := HTW.out t
        have hkn : Kn W l k := HH.out.kn.keep tw (fun b im R hb e => HH.out.now.words b im R hb e)
        have hwk := HH.out.step hn hkn HH.out.inK (.inl rfl) tw
        have hkS : ¬ (Kw = r ∨ Kw = K5) ∧ ¬ (K0 = r ∨ K0 = K5) := by have h1 := HKR.out; have h2 := HK5.out; exact ⟨by omega, by omega⟩
        refine (choose2_any c hwk (Kw := Kw) (K0 := K0) (K5 := K5) (by rw [HX.out]; exact H6.out.2.2.2.1.keep t hkS.1) (H6.out.2.2.2.2.1.keep t hkS.2) hR ⟨by have h1 := HH.out.rows.le; have h2 := HK5.out.1; omega, ⟨HKR.out.2.2.2.2.1, HKR.out.2.2.2.1, HKR.out.2.2.2.2.2.1, HKR.out.2.2.2.2.2.2⟩, fun i e => by have h1 := HH.out.kn.lt e; have h2 := HK5.out.1; omega⟩ ⟨HKR.out.1, HKR.out.2.1⟩ HT.out.2.2.2 (Mw.getD (2 * i) 0) (Mw.getD (2 * i + 1) 0)).mono ?_
        rintro e w' ⟨t', ⟨h1, h2, h3, R', h4, h5⟩ | ⟨h1, h2⟩⟩
        · refine ⟨t', .inl ⟨h1, h2, h3, R', h4, fun y => ?_⟩⟩
          rw [h5 y, Bool.or_eq_true, hRx y, decide_eq_true_eq]
          constructor
          · rintro (⟨j, e1, e2⟩ | e1)
            · exact ⟨j, by omega, e2⟩
            · exact ⟨i, by omega, e1.symm⟩
          · rintro ⟨j, e1, e2⟩
            by_cases hji : j < i
            · exact .inl ⟨j, hji, e2⟩
            · obtain rfl : j = i := by omega
              exact .inr e2.symm
        · exact ⟨t', .inr ⟨h1, h2⟩⟩)
      ⟨H6.out.2.1, Vf.zero, H6.out.2.2.2.2.2, fun y => by rw [Vf.has_zero]; constructor
                                                          · intro e; cases e
                                                          · rintro ⟨j, e, _⟩; omega⟩)
    have d7 := H6.out.2.2.2.2.1.cell 7
    have ld := H6.out.2.2.2.2.1.lt
    go_wp2_with fail
    clear d7 ld
    refine HWY.out.mono ?_; rintro e w8 ⟨t8, ⟨hq, rfl, hn8, R, hR, hRx⟩ | ⟨hq, rfl⟩⟩
    rotate_left
    · refine ⟨rfl, .inr ⟨fun e => hq ?_, rfl, HTW.out t8⟩⟩
      rw [HNE.out] at e
      obtain ⟨t', e1, e2, e3, e4, _⟩ := e
      exact e4
    have T8 : Hid (Turn (fun j => j = N ∨ j = r) w w8 ∧ NowAt w8 N r l ∧ Vf.WaysK Mw (fun s bl => (0 ≤ s ∧ s < c.m.shapes.length) ∧ FitsK c.m f (setK k a (oneT s)) bl)) := ⟨HTW.out t8, hn8, hq⟩
    have htw := HT.out.2.1.keep T8.out.1 (fun e => HH.out.now.words _ _ _ HT.out.2.1.1 e)
    have HWS := Lib.hid (within_any htw.1 hR)
    have HSUB : Hid (WSub t.imm (ofL t.shapes) true R ↔ (t.imm = true → b ≠ -1) ∧ ∀ s ∈ t.shapes, s ∈ Vf.evens Mw) := by
      show _ ↔ _
      unfold WSub
      refine and_congr (HIM.out _ rfl) ⟨fun h s hs => ?_, fun h y hy hys => ?_⟩
      · have h1 := HT.out.2.1.2 s hs
        obtain ⟨j, rfl⟩ := Int.eq_ofNat_of_zero_le h1.1
        obtain ⟨i, hi, he⟩ := (hRx j).1 (h j (by omega) ((ofL_mem (fun y hy => (HT.out.2.1.2 y hy).1) j).2 hs))
        exact (mem_evens Mw _).2 ⟨i, by have := hq.1; omega, he⟩
      · obtain ⟨i, hi, he⟩ := (mem_evens Mw _).1 (h _ ((ofL_mem (fun y hy => (HT.out.2.1.2 y hy).1) y).1 hys))
        exact (hRx y).2 ⟨i, by have := hq.1; omega, he⟩
    clear t8 hq hn8 hR hRx htw
    go_wp2_with fail
    refine HWS.out.mono ?_; rintro e w9 ⟨rb, rfl, hrb, t9⟩
    have H9 : Hid ((rb = true ↔ (t.imm = true → b ≠ -1) ∧ ∀ s ∈ t.shapes, s ∈ Vf.evens Mw) ∧ Turn (fun j => j = N ∨ j = r) w w9 ∧ NowAt w9 N r l) := ⟨hrb.trans HSUB.out, T8.out.1.trans t9.turn, T8.out.2.1.keep t9 (fun e => e) (fun e => e)⟩
    clear hrb t9
    cases rb with
    | false =>
      go_wp2_with fail
      refine (need_no _).mono ?_; rintro e w3 ⟨rfl, hw3⟩; subst w3
      refine ⟨rfl, .inr ⟨fun e => ?_, rfl, H9.out.2.1⟩⟩
      rw [HNE.out] at e
      obtain ⟨t', e1, e2, e3, e4, e5⟩ := e
      obtain rfl := Option.some.inj (HT.out.1.symm.trans e1)
      exact absurd (H9.out.1.2 e5) (by decide)
    | true =>
      go_wp2_with fail
      refine (need_yes _).mono ?_; rintro e w3 ⟨rfl, hw3⟩; subst w3
      go_wp2_with fail
      go_end0
      refine .inl ⟨?_, rfl, ⟨r, l, H9.out.2.2, ?_, .inl rfl⟩, H9.out.2.1⟩
      · rw [HNE.out]
        exact ⟨t, HT.out.1, H6.out.1.1, H6.out.1.2, T8.out.2.2, H9.out.1.1 (by first | rfl | trivial)⟩
      · rw [HNX.out]
        exact HH.out.kn.keep H9.out.2.1 (fun b im R hb e => HH.out.now.words b im R hb e)
end Go.Proofs.YtglalgjffkoneaaGreatDoor
/- A switch. -/
namespace Go.Proofs.YtglalgjffkoneaaGreatDoor
set_option linter.unusedVariables false
set_option linter.unusedSimpArgs false
open Go.ChangeShapes Go.WideShapes Go.ChangeAt Go.RowKit
open Vf (K nth nth_nat tyAt atK isK numT oneT le beginK tsub RowK FitsK CalledK resT ObjK keepK KeepsK setK hasK)
set_option maxRecDepth 100000 in
set_option maxHeartbeats 8000000 in
theorem leave_switch (c : WkC) (x : M.Ins) (hop : x.op = 20) (w : World) (f : M.Fn) (g : FV) (fi bi ii : Int) (N r T Y : Nat) (l : List (Option Nat)) (k : K) (la : Option Addr) (ln lc : Nat) (ma : Option Addr) (mn mc : Nat) (va : Option Addr) (vn vc : Nat) (h : WkAt c w f g fi bi ii N r T Y l k) (hx : InsIs c.B w [.int .i64 20, .int .i64 x.d, .int .i64 x.a, .int .i64 x.b, .int .i64 x.c, .int .i64 x.n, .slice la ln lc, .slice ma mn mc, .slice va vn vc] x) :
    Calls Tryz.prog 95 #[.pointer (some ⟨c.X, 0, none⟩), .agg #[.int .i64 20, .int .i64 x.d, .int .i64 x.a, .int .i64 x.b, .int .i64 x.c, .int .i64 x.n, .slice la ln lc, .slice ma mn mc, .slice va vn vc]] w (StepR c f N r k x w) := by
  have HH := Lib.hid h
  have HXI := Lib.hid hx
  have S1 : Hid (Still w (w.alloc (.cells #[.int .i64 20, .int .i64 x.d, .int .i64 x.a, .int .i64 x.b, .int .i64 x.c, .int .i64 x.n, .slice la ln lc, .slice ma mn mc, .slice va vn vc] 36)) ∧ Blk (w.alloc (.cells #[.int .i64 20, .int .i64 x.d, .int .i64 x.a, .int .i64 x.b, .int .i64 x.c, .int .i64 x.n, .slice la ln lc, .slice ma mn mc, .slice va vn vc] 36)) w.heap.size 36 #[.int .i64 20, .int .i64 x.d, .int .i64 x.a, .int .i64 x.b, .int .i64 x.c, .int .i64 x.n, .slice la ln lc, .slice ma mn mc, .slice va vn vc]) := ⟨(Still.refl w).alloc _, Blk.new w _ _⟩
  obtain ⟨X, hX⟩ : ∃ X, c.X = X := ⟨_, rfl⟩
  have HX := Lib.hid hX
  rw [hX]
  obtain ⟨kf, hkf, hkl⟩ : ∃ kf : Nat, f.result = kf ∧ kf < c.m.types.length := by
    have h1 := h.ok
    unfold fnB at h1
    simp only [Bool.and_eq_true] at h1
    obtain ⟨e1, e2⟩ := (hasB_iff _ _).1 h1.1.2
    obtain ⟨kf, hkf⟩ := Int.eq_ofNat_of_zero_le e1
    exact ⟨kf, hkf, by omega⟩
  obtain ⟨tb, htb⟩ : ∃ tb, c.bs[kf]? = some tb := ⟨_, List.getElem?_eq_getElem (by rw [h.rows.lb]; exact hkl)⟩
  obtain ⟨tt, htt⟩ : ∃ tt, c.m.types[kf]? = some tt := ⟨_, List.getElem?_eq_getElem hkl⟩
  have HTB : Hid (c.bs[kf]? = some tb ∧ c.m.types[kf]? = some tt ∧ tyAt c.m f.result = tt) := ⟨htb, htt, by unfold tyAt; rw [hkf, nth_nat, htt]; rfl⟩
  obtain ⟨r1, hr1⟩ : ∃ r1, c.r1 = r1 := ⟨_, rfl⟩
  have HR1 := Lib.hid hr1
  obtain ⟨tn, htn⟩ : ∃ tn, c.v.tn = tn := ⟨_, rfl⟩
  have HTN := Lib.hid htn
  have hktn : kf < tn := by have := h.rows.img.types.len; omega
  have HKF := Lib.hid hkf
  have HOP := Lib.hid hop
  clear h hop hx hX hkf htb htt hr1 htn hkl
  go_enter Tryz.func95, Tryz.ntmps95
  go_wp2_with fail
  generalize w.alloc (.cells #[.int .i64 20, .int .i64 x.d, .int .i64 x.a, .int .i64 x.b, .int .i64 x.c, .int .i64 x.n, .slice la ln lc, .slice ma mn mc, .slice va vn vc] 36) = w1 at S1 ⊢
  obtain ⟨K0, hK0⟩ : ∃ K0, w.heap.size = K0 := ⟨_, rfl⟩
  rw [hK0] at S1
  rw [hK0]
  have HK0 := Lib.hid hK0
  clear hK0
  have H1 := Lib.hid (HH.out.still S1.out.1)
  have x7 : w1.cell? ⟨X, 7, none⟩ = some (.slice (some ⟨r1, 0, none⟩) tn c.rc) := by rw [← HX.out, ← HR1.out, ← HTN.out]; exact H1.out.box.cell 7
  have x12 : w1.cell? ⟨X, 12, none⟩ = some (.int .i64 kf) := by rw [← HX.out, ← HKF.out, ← HH.out.fn.1]; exact H1.out.box.cell 12
  have xr : w1.cell? ⟨r1, kf, none⟩ = some (.pointer (some ⟨tb, 0, none⟩)) := by rw [← HR1.out]; exact H1.out.rows.rt kf tb HTB.out.1
  have y7 : w1.drew.cell? ⟨X, 7, none⟩ = some (.slice (some ⟨r1, 0, none⟩) tn c.rc) := x7
  have y12 : w1.drew.cell? ⟨X, 12, none⟩ = some (.int .i64 kf) := x12
  have yr : w1.drew.cell? ⟨r1, kf, none⟩ = some (.pointer (some ⟨tb, 0, none⟩)) := xr
  have lX : X < w1.heap.size := by rw [← HX.out]; exact H1.out.box.lt
  have lr : r1 < w1.heap.size := World.block_lt_of_cell? _ _ xr
  have hki : (kf : Int) < tn := by omega
  go_region
  have c0 : w1.drew.cell? ⟨K0, 0, none⟩ = some (.int .i64 20) := S1.out.2.cell 0
  have c0' : w1.cell? ⟨K0, 0, none⟩ = some (.int .i64 20) := S1.out.2.cell 0
  clear x7 x12 xr y7 y12 yr
  have SD1 : Hid (Still w1 w1.drew) := (Still.refl w1).drew
  have c1 : w1.drew.cell? ⟨K0, 1, none⟩ = some (.int .i64 x.d) := S1.out.2.cell 1
  have c2 : w1.drew.cell? ⟨K0, 2, none⟩ = some (.int .i64 x.a) := S1.out.2.cell 2
  have c3 : w1.drew.cell? ⟨K0, 3, none⟩ = some (.int .i64 x.b) := S1.out.2.cell 3
  have c4 : w1.drew.cell? ⟨K0, 4, none⟩ = some (.int .i64 x.c) := S1.out.2.cell 4
  have c5 : w1.drew.cell? ⟨K0, 5, none⟩ = some (.int .i64 x.n) := S1.out.2.cell 5
  have c6 : w1.drew.cell? ⟨K0, 6, none⟩ = some (.slice la ln lc) := S1.out.2.cell 6
  have c7 : w1.drew.cell? ⟨K0, 7, none⟩ = some (.slice ma mn mc) := S1.out.2.cell 7
  have c8 : w1.drew.cell? ⟨K0, 8, none⟩ = some (.slice va vn vc) := S1.out.2.cell 8
  have TT : Hid (Still w w1.drew) := S1.out.1.trans SD1.out
  have HCH := Lib.hid (choose_any c x HOP.out _ f g fi bi ii N r T Y l k la ln lc ma mn mc va vn vc (HH.out.still TT.out) (HXI.out.keep ((Still.below TT.out).mono (by have := HH.out.rows.le; omega)) (by have := HH.out.rows.le; omega)))
  have HSR : Hid (∀ e W, StepR c f N r k x w1.drew e W → StepR c f N r k x w e W) := fun e W hs => by
    rcases hs with ⟨h1, h2, ⟨r', l', h3, h4, h5⟩, h6⟩ | ⟨h1, h2, h3⟩
    · exact .inl ⟨h1, h2, ⟨r', l', h3, h4, h5.elim .inl fun e => .inr (Nat.le_trans TT.out.size e)⟩, TT.out.turn.trans h6⟩
    · exact .inr ⟨h1, h2, TT.out.turn.trans h3⟩
  rw [HX.out] at HCH
  go_wp2_with fail
  clear c0 c0' c1 c2 c3 c4 c5 c6 c7 c8
  refine HCH.out.mono ?_; rintro e w5 hs
  have hs2 := HSR.out _ _ hs
  clear hs
  rcases hs2 with ⟨h1, rfl, h3, h4⟩ | ⟨h1, rfl, h3⟩
  · have HS := Lib.hid (And.intro h1 (And.intro h3 h4))
    clear h1 h3 h4
    go_wp2_with fail
    go_end0
    exact .inl ⟨HS.out.1, rfl, HS.out.2.1, HS.out.2.2⟩
  · exact ⟨rfl, .inr ⟨h1, rfl, h3⟩⟩
set_option maxRecDepth 100000 in
set_option maxHeartbeats 8000000 in
theorem step_switch (c : WkC) (x : M.Ins) (hop : x.op = 20) : StepOk c x := by
  intro w f g fi bi ii N r T Y l k la ln lc ma mn mc va vn vc h hx
  have S1 : Hid (Still w (w.alloc (.cells #[.int .i64 20, .int .i64 x.d, .int .i64 x.a, .int .i64 x.b, .int .i64 x.c, .int .i64 x.n, .slice la ln lc, .slice ma mn mc, .slice va vn vc] 36)) ∧ Blk (w.alloc (.cells #[.int .i64 20, .int .i64 x.d, .int .i64 x.a, .int .i64 x.b, .int .i64 x.c, .int .i64 x.n, .slice la ln lc, .slice ma mn mc, .slice va vn vc] 36)) w.heap.size 36 #[.int .i64 20, .int .i64 x.d, .int .i64 x.a, .int .i64 x.b, .int .i64 x.c, .int .i64 x.n, .slice la ln lc, .slice ma mn mc, .slice va vn vc]) := ⟨(Still.refl w).alloc _, Blk.new w _ _⟩
  rw [hop] at hx
  have HL := Lib.hid (leave_switch c x hop _ f g fi bi ii N r T Y l k la ln lc ma mn mc va vn vc (h.still S1.out.1) (hx.keep ((Still.below S1.out.1).mono (by have := h.rows.le; omega)) (by have := h.rows.le; omega)))
  rw [hop]
  have c0 := S1.out.2.cell 0
  have c1 := S1.out.2.cell 1
  have c2 := S1.out.2.cell 2
  have c3 := S1.out.2.cell 3
  have c4 := S1.out.2.cell 4
  have c5 := S1.out.2.cell 5
  have c6 := S1.out.2.cell 6
  have c7 := S1.out.2.cell 7
  have c8 := S1.out.2.cell 8
  have HSR : Hid (∀ e W, StepR c f N r k x (w.alloc (.cells #[.int .i64 20, .int .i64 x.d, .int .i64 x.a, .int .i64 x.b, .int .i64 x.c, .int .i64 x.n, .slice la ln lc, .slice ma mn mc, .slice va vn vc] 36)) e W → StepR c f N r k x w e W) := fun e W hs => by
    rcases hs with ⟨h1, h2, ⟨r', l', h3, h4, h5⟩, h6⟩ | ⟨h1, h2, h3⟩
    · exact .inl ⟨h1, h2, ⟨r', l', h3, h4, h5.elim .inl fun e => .inr (Nat.le_trans S1.out.1.size e)⟩, S1.out.1.turn.trans h6⟩
    · exact .inr ⟨h1, h2, S1.out.1.turn.trans h3⟩
  clear h hx hop
  go_enter Tryz.func59, Tryz.ntmps59
  go_wp2_with fail
  clear c0 c1 c2 c3 c4 c5 c6 c7 c8
  refine HL.out.mono ?_; rintro e w5 hs
  have hs2 := HSR.out _ _ hs
  clear hs
  rcases hs2 with ⟨h1, rfl, h3, h4⟩ | ⟨h1, rfl, h3⟩
  · have HS := Lib.hid (And.intro h1 (And.intro h3 h4))
    clear h1 h3 h4
    go_wp2_with fail
    go_end0
    exact .inl ⟨HS.out.1, rfl, HS.out.2.1, HS.out.2.2⟩
  · exact ⟨rfl, .inr ⟨h1, rfl, h3⟩⟩
end Go.Proofs.YtglalgjffkoneaaGreatDoor
/- A field is read. -/
namespace Go.Proofs.YtglalgjffkoneaaGreatDoor
set_option linter.unusedVariables false
set_option linter.unusedSimpArgs false
open Go.ChangeShapes Go.WideShapes Go.ChangeAt Go.RowKit
open Vf (K nth nth_nat tyAt atK isK numT oneT le beginK tsub RowK FitsK CalledK resT ObjK keepK KeepsK setK hasK)
set_option maxRecDepth 100000 in
set_option maxHeartbeats 8000000 in
theorem use_field (c : WkC) (hW : wholeB c.m = true) (x : M.Ins) (hop : x.op = 6) (w : World) (f : M.Fn) (g : FV) (fi bi ii : Int) (N r T Y : Nat) (l : List (Option Nat)) (k : K) (la : Option Addr) (ln lc : Nat) (ma : Option Addr) (mn mc : Nat) (va : Option Addr) (vn vc : Nat) (h : WkAt c w f g fi bi ii N r T Y l k) (hx : InsIs c.B w [.int .i64 6, .int .i64 x.d, .int .i64 x.a, .int .i64 x.b, .int .i64 x.c, .int .i64 x.n, .slice la ln lc, .slice ma mn mc, .slice va vn vc] x) :
    Calls Tryz.prog 96 #[.pointer (some ⟨c.X, 0, none⟩), .agg #[.int .i64 6, .int .i64 x.d, .int .i64 x.a, .int .i64 x.b, .int .i64 x.c, .int .i64 x.n, .slice la ln lc, .slice ma mn mc, .slice va vn vc]] w (StepR c f N r k x w) := by
  obtain ⟨op, d, a, b, cc, xn, L, Mw, V⟩ := x
  dsimp only at hop hx ⊢
  subst hop
  have HNE : Hid (Vf.Needs c.m f k ⟨6, d, a, b, cc, xn, L, Mw, V⟩ = (ObjK k a (Vf.hasF c.m 1 b) ∧ hasK k d)) := by show _ = _; rfl
  have HNX : Hid (Vf.next c.m k ⟨6, d, a, b, cc, xn, L, Mw, V⟩ = setK k d (Vf.allT c.m b ((atK k a).getD numT).shapes)) := by show _ = _; rfl
  have S1 : Hid (Still w (w.alloc (.cells #[.int .i64 6, .int .i64 d, .int .i64 a, .int .i64 b, .int .i64 cc, .int .i64 xn, .slice la ln lc, .slice ma mn mc, .slice va vn vc] 36))) := (Still.refl w).alloc _
  have HGE := Lib.hid (get_any c hW (h.still S1.out) d a 1 b)
  clear h hx hW
  go_enter Tryz.func96, Tryz.ntmps96
  go_wp2_with fail
  refine HGE.out.mono ?_; rintro e w5 (⟨h1, rfl, ⟨l', h2, h3⟩, h4⟩ | ⟨h1, rfl, h4⟩)
  · have H5 := Lib.hid (And.intro h1 (And.intro h2 (And.intro h3 (S1.out.turn.trans h4))))
    clear h1 h2 h3 h4
    go_wp2_with fail
    go_end0
    refine .inl ⟨by rw [HNE.out]; exact H5.out.1, rfl, ⟨r, l', H5.out.2.1, by rw [HNX.out]; exact H5.out.2.2.1, .inl rfl⟩, H5.out.2.2.2⟩
  · exact ⟨rfl, .inr ⟨by rw [HNE.out]; exact h1, rfl, S1.out.turn.trans h4⟩⟩
set_option maxRecDepth 100000 in
set_option maxHeartbeats 8000000 in
theorem step_field (c : WkC) (hW : wholeB c.m = true) (x : M.Ins) (hop : x.op = 6) : StepOk c x := by
  intro w f g fi bi ii N r T Y l k la ln lc ma mn mc va vn vc h hx
  have S1 : Hid (Still w (w.alloc (.cells #[.int .i64 6, .int .i64 x.d, .int .i64 x.a, .int .i64 x.b, .int .i64 x.c, .int .i64 x.n, .slice la ln lc, .slice ma mn mc, .slice va vn vc] 36)) ∧ Blk (w.alloc (.cells #[.int .i64 6, .int .i64 x.d, .int .i64 x.a, .int .i64 x.b, .int .i64 x.c, .int .i64 x.n, .slice la ln lc, .slice ma mn mc, .slice va vn vc] 36)) w.heap.size 36 #[.int .i64 6, .int .i64 x.d, .int .i64 x.a, .int .i64 x.b, .int .i64 x.c, .int .i64 x.n, .slice la ln lc, .slice ma mn mc, .slice va vn vc]) := ⟨(Still.refl w).alloc _, Blk.new w _ _⟩
  rw [hop] at hx
  have HL := Lib.hid (use_field c hW x hop _ f g fi bi ii N r T Y l k la ln lc ma mn mc va vn vc (h.still S1.out.1) (hx.keep ((Still.below S1.out.1).mono (by have := h.rows.le; omega)) (by have := h.rows.le; omega)))
  rw [hop]
  have c0 := S1.out.2.cell 0
  have c1 := S1.out.2.cell 1
  have c2 := S1.out.2.cell 2
  have c3 := S1.out.2.cell 3
  have c4 := S1.out.2.cell 4
  have c5 := S1.out.2.cell 5
  have c6 := S1.out.2.cell 6
  have c7 := S1.out.2.cell 7
  have c8 := S1.out.2.cell 8
  have HSR : Hid (∀ e W, StepR c f N r k x (w.alloc (.cells #[.int .i64 6, .int .i64 x.d, .int .i64 x.a, .int .i64 x.b, .int .i64 x.c, .int .i64 x.n, .slice la ln lc, .slice ma mn mc, .slice va vn vc] 36)) e W → StepR c f N r k x w e W) := fun e W hs => by
    rcases hs with ⟨h1, h2, ⟨r', l', h3, h4, h5⟩, h6⟩ | ⟨h1, h2, h3⟩
    · exact .inl ⟨h1, h2, ⟨r', l', h3, h4, h5.elim .inl fun e => .inr (Nat.le_trans S1.out.1.size e)⟩, S1.out.1.turn.trans h6⟩
    · exact .inr ⟨h1, h2, S1.out.1.turn.trans h3⟩
  clear h hx hop
  go_enter Tryz.func59, Tryz.ntmps59
  go_wp2_with fail
  clear c0 c1 c2 c3 c4 c5 c6 c7 c8
  refine HL.out.mono ?_; rintro e w5 hs
  have hs2 := HSR.out _ _ hs
  clear hs
  rcases hs2 with ⟨h1, rfl, h3, h4⟩ | ⟨h1, rfl, h3⟩
  · have HS := Lib.hid (And.intro h1 (And.intro h3 h4))
    clear h1 h3 h4
    go_wp2_with fail
    go_end0
    exact .inl ⟨HS.out.1, rfl, HS.out.2.1, HS.out.2.2⟩
  · exact ⟨rfl, .inr ⟨h1, rfl, h3⟩⟩
end Go.Proofs.YtglalgjffkoneaaGreatDoor
