/- takeList of each type of element. -/
import Derived.Test.YthlifflapgccbaaGreatL12
namespace Go.Proofs.YthlifflapgccbaaGreat
set_option linter.unusedVariables false
set_option linter.unusedSimpArgs false
open Go.ChangeShapes Go.WideShapes Go.ChangeAt Go.RowKit
open M (W)
theorem infoTTy : (Tryz.prog.info? 49).map (fun i => (i.zero, i.size, i.bytes)) = some (some (.agg #[.bool false, .slice none 0 0]), 2, 32) := by kernel_rfl
set_option maxRecDepth 100000 in
set_option maxHeartbeats 1000000 in
theorem takeTy_any (p : M.Par M.Ty) (fid : FuncId) (hfid : ∀ args W, (callFunc fid args).run Tryz.prog W = .ok (.enter fid args) W) (most : Nat) (hm : most ≤ 1000000) {q : RP} (hq : q.ok) {w : World} {k sz : Nat} {bad : Bool} (h : Rd q w k sz bad)
    (hf : ∀ (W : World) (k sz : Nat) (bad : Bool), Rd q W k sz bad → Calls Tryz.prog fid #[.pointer (some ⟨q.g, 0, none⟩)] W fun e w' => ∃ (v0 : Bool) (a2 : Option Addr) (n2 c2 : Nat) (k' sz' : Nat) (bad' : Bool), e = .returned (.agg #[.bool v0, .slice a2 n2 c2]) ∧ StepR q p (fun x => TyQ (Fresh W w') w' [.bool v0, .slice a2 n2 c2] x) W w' k sz bad k' sz' bad') :
    Calls Tryz.prog 30 #[.pointer (some ⟨q.g, 0, none⟩), .int .i64 most, .func (.func fid) #[.pointer (some ⟨q.g, 0, none⟩)] #[]] w fun e w' => ∃ (a : Option Addr) (n c k' sz' : Nat) (bad' : Bool), e = .returned (.slice a n c) ∧ n ≤ most ∧ StepR q (M.pList most p) (fun l => LiesQ (Fresh w w') w' 2 (TyQ (Fresh w w') w') a n l) w w' k sz bad k' sz' bad' := by
  have H := Lib.hid (rlength_any most hm hq h)
  have HM := Lib.hid hm
  have HF := Lib.hid hf
  have HFID := Lib.hid hfid
  clear h hq hm hf hfid
  go_enter Tryz.func30, Tryz.ntmps30
  go_wp2_with fail
  refine H.out.mono ?_; rintro e w1 ⟨n, k1, b1, rfl, hn1, hn2, hs⟩
  have HS1 := Lib.hid hs
  have HN := Lib.hid hn1
  clear hs hn1 hn2
  by_cases h0 : n = 0
  · subst h0
    go_wp2_with fail
    go_ret
    exact ⟨none, 0, 0, k1, sz, b1, rfl, Nat.zero_le _, list_done (i := 0) HS1.out (StepR.refl (V := fun l => l = []) HS1.out.rd rfl) (Nat.le_refl _) (.inr rfl) fun _ l hl => by subst hl; exact ⟨rfl, fun h => absurd h (by omega)⟩⟩
  · skip
    have x0 : ((n : Int) == 0) = false := beq_eq_false_iff_ne.2 (by omega)
    obtain ⟨C, hC, hmk⟩ : ∃ C : Array Value, C.size = n * 2 ∧ ∀ W, (Instr.makeSlice 23 (.int .i64 0) (.int .i64 (n : Int))).run Tryz.prog W = .ok (.slice (some ⟨W.heap.size, 0, none⟩) 0 n) (W.alloc (.cells C 49)) :=
      ⟨_, size_madeCells _ _, run_make_cap (P := Tryz.prog) 23 49 _ 2 32 Tryz.underlying23 infoTTy .i64 .i64 n (by have := HN.out; have := HM.out; omega) (by have := HN.out; have := HM.out; unfold maxLen; omega)⟩
    have HC := Lib.hid hC
    clear hC
    have H0 := Lib.hid h0
    clear h0
    have hgl := HS1.out.rd.blk.lt
    have hbl := HS1.out.rd.lt
    go_wp2_with fail
    go_loopw [8] (fun v wr => ∃ (vs : List (List Value)) (a : Option Addr) (i c k2 s2 : Nat) (b2 : Bool), v = .slice a i c ∧ i ≤ n ∧ Tk q p 49 2 TyQ w1 k1 sz b1 vs a i c wr k2 s2 b2) (fun v _ => n - lenV v)
    case atStart =>
      have st : Still w1 (w1.alloc (.cells C 49)) := (Still.refl w1).alloc _
      exact ⟨[], _, 0, _, k1, sz, b1, rfl, Nat.zero_le _, Tk.none (HS1.out.rd.still st) st.turn (World.ownsRow_made w1 _ n (Nat.le_refl _) (by have := HN.out; have := HM.out; unfold maxLen; omega) HC.out)⟩
    case round =>
      obtain ⟨vs, a, i, c, k2, s2, b2, rfl, hi, htk⟩ := hrel
      obtain ⟨hl, d0, d1, d2, d3, f1, f2, f3⟩ := rd_cells htk.step.rd
      have HT := Lib.hid htk
      have HI := Lib.hid hi
      by_cases hlt : i < n
      · have x1 : decide ((i : Int) < n) = true := decide_eq_true (by omega)
        cases b2 with
        | true =>
          have HLT := Lib.hid hlt
          clear htk hi hlt
          go_wp2_with fail
          go_ret
          exact ⟨a, i, c, k2, s2, true, rfl, Nat.le_trans HI.out HN.out, list_done HS1.out HT.out.step HI.out (.inl rfl) fun e => absurd e (by have := HLT.out; omega)⟩
        | false =>
          have HCALL := Lib.hid (HF.out wr k2 s2 false htk.step.rd)
          have hfid := HFID.out
          have HLT := Lib.hid hlt
          clear htk hi hlt
          go_wp2_with fail
          refine HCALL.out.mono ?_; rintro e w2 ⟨v0, a2, n2, c2, k3, s3, b3, rfl, hu⟩
          have HU := Lib.hid hu
          clear hu hfid
          have hgo := HU.out.turn.size
          have ho2 := own_keep HT.out.own HU.out.turn (fun j e e2 => by have := (HT.out.own.lt j e).1; omega)
          have HO2 := Lib.hid ho2
          have h1 := HN.out
          have h2 := HM.out
          have h3 := HLT.out
          have HSZ : w1.heap.size ≤ w2.heap.size := Nat.le_trans HT.out.step.turn.size HU.out.turn.size
          clear ho2 hgo
          go_wp2_with (at_builtin; refine wpList_append_form rfl (.tmp 27) (.tmp 30) 23 rfl w1.heap.size 49 2 32 _ Tryz.underlying23 infoTTy rfl (by decide) a i c vs.flatten rfl (HO2.out.alloc _) ⟨w2.heap.size, 0, none⟩ 1 1 [.bool v0, .slice a2 n2 c2] rfl rfl (fun j u hj => by rw [Addr.add_lit, Nat.zero_add, (Blk.new w2 49 #[.bool v0, .slice a2 n2 c2]).cell j]; simpa using hj) (by simp [Value.oneCell']) (by decide) (by unfold maxLen; omega) (by omega) (by simp; omega) ?_; intro g4 c4 w4 hr4 ht4 hn4)
          go_roundw
          case rel =>
            refine ⟨vs ++ [[.bool v0, .slice a2 n2 c2]], some ⟨g4, 0, none⟩, i + 1, c4, k3, s3, b3, rfl, by omega, Tk.next (P := TyQ) (fun _ _ _ _ _ _ h k => h.keep k) HT.out hgl hbl HU.out rfl ((Still.refl w2).alloc _) (HO2.out.alloc _) ht4.out hr4.out ?_⟩
            rcases hn4.out with e | e
            · exact .inl (by rw [e]; rfl)
            · exact .inr fun j hj => by
                have : g4 = j := by simpa [Value.ownBlock] using hj
                rw [← this]; exact e
          case measure => simp [lenV]; omega
      · obtain rfl : i = n := by omega
        have x1 : decide ((i : Int) < i) = false := decide_eq_false (by omega)
        clear htk hi hlt
        go_wp2_with fail
        go_ret
        exact ⟨a, i, c, k2, s2, b2, rfl, HN.out, list_done HS1.out HT.out.step HI.out (.inr rfl) fun _ l hl => Tk.lies (P := TyQ) (fun _ _ _ _ _ _ h k => h.keep k) HT.out HS1.out.turn.size hl.1 hl.2⟩
theorem infoTSh : (Tryz.prog.info? 51).map (fun i => (i.zero, i.size, i.bytes)) = some (some (.agg #[.int .i64 0, .slice none 0 0, .string ⟨#[]⟩]), 3, 48) := by kernel_rfl
set_option maxRecDepth 100000 in
set_option maxHeartbeats 1000000 in
theorem takeSh_any (p : M.Par M.Sh) (fid : FuncId) (hfid : ∀ args W, (callFunc fid args).run Tryz.prog W = .ok (.enter fid args) W) (most : Nat) (hm : most ≤ 1000000) {q : RP} (hq : q.ok) {w : World} {k sz : Nat} {bad : Bool} (h : Rd q w k sz bad)
    (hf : ∀ (W : World) (k sz : Nat) (bad : Bool), Rd q W k sz bad → Calls Tryz.prog fid #[.pointer (some ⟨q.g, 0, none⟩)] W fun e w' => ∃ (v0 : Int) (a2 : Option Addr) (n2 c2 : Nat) (v1 : ByteArray) (k' sz' : Nat) (bad' : Bool), e = .returned (.agg #[.int .i64 v0, .slice a2 n2 c2, .string v1]) ∧ StepR q p (fun x => ShQ (Fresh W w') w' [.int .i64 v0, .slice a2 n2 c2, .string v1] x) W w' k sz bad k' sz' bad') :
    Calls Tryz.prog 32 #[.pointer (some ⟨q.g, 0, none⟩), .int .i64 most, .func (.func fid) #[.pointer (some ⟨q.g, 0, none⟩)] #[]] w fun e w' => ∃ (a : Option Addr) (n c k' sz' : Nat) (bad' : Bool), e = .returned (.slice a n c) ∧ n ≤ most ∧ StepR q (M.pList most p) (fun l => LiesQ (Fresh w w') w' 3 (ShQ (Fresh w w') w') a n l) w w' k sz bad k' sz' bad' := by
  have H := Lib.hid (rlength_any most hm hq h)
  have HM := Lib.hid hm
  have HF := Lib.hid hf
  have HFID := Lib.hid hfid
  clear h hq hm hf hfid
  go_enter Tryz.func32, Tryz.ntmps32
  go_wp2_with fail
  refine H.out.mono ?_; rintro e w1 ⟨n, k1, b1, rfl, hn1, hn2, hs⟩
  have HS1 := Lib.hid hs
  have HN := Lib.hid hn1
  clear hs hn1 hn2
  by_cases h0 : n = 0
  · subst h0
    go_wp2_with fail
    go_ret
    exact ⟨none, 0, 0, k1, sz, b1, rfl, Nat.zero_le _, list_done (i := 0) HS1.out (StepR.refl (V := fun l => l = []) HS1.out.rd rfl) (Nat.le_refl _) (.inr rfl) fun _ l hl => by subst hl; exact ⟨rfl, fun h => absurd h (by omega)⟩⟩
  · skip
    have x0 : ((n : Int) == 0) = false := beq_eq_false_iff_ne.2 (by omega)
    obtain ⟨C, hC, hmk⟩ : ∃ C : Array Value, C.size = n * 3 ∧ ∀ W, (Instr.makeSlice 24 (.int .i64 0) (.int .i64 (n : Int))).run Tryz.prog W = .ok (.slice (some ⟨W.heap.size, 0, none⟩) 0 n) (W.alloc (.cells C 51)) :=
      ⟨_, size_madeCells _ _, run_make_cap (P := Tryz.prog) 24 51 _ 3 48 Tryz.underlying24 infoTSh .i64 .i64 n (by have := HN.out; have := HM.out; omega) (by have := HN.out; have := HM.out; unfold maxLen; omega)⟩
    have HC := Lib.hid hC
    clear hC
    have H0 := Lib.hid h0
    clear h0
    have hgl := HS1.out.rd.blk.lt
    have hbl := HS1.out.rd.lt
    go_wp2_with fail
    go_loopw [8] (fun v wr => ∃ (vs : List (List Value)) (a : Option Addr) (i c k2 s2 : Nat) (b2 : Bool), v = .slice a i c ∧ i ≤ n ∧ Tk q p 51 3 ShQ w1 k1 sz b1 vs a i c wr k2 s2 b2) (fun v _ => n - lenV v)
    case atStart =>
      have st : Still w1 (w1.alloc (.cells C 51)) := (Still.refl w1).alloc _
      exact ⟨[], _, 0, _, k1, sz, b1, rfl, Nat.zero_le _, Tk.none (HS1.out.rd.still st) st.turn (World.ownsRow_made w1 _ n (Nat.le_refl _) (by have := HN.out; have := HM.out; unfold maxLen; omega) HC.out)⟩
    case round =>
      obtain ⟨vs, a, i, c, k2, s2, b2, rfl, hi, htk⟩ := hrel
      obtain ⟨hl, d0, d1, d2, d3, f1, f2, f3⟩ := rd_cells htk.step.rd
      have HT := Lib.hid htk
      have HI := Lib.hid hi
      by_cases hlt : i < n
      · have x1 : decide ((i : Int) < n) = true := decide_eq_true (by omega)
        cases b2 with
        | true =>
          have HLT := Lib.hid hlt
          clear htk hi hlt
          go_wp2_with fail
          go_ret
          exact ⟨a, i, c, k2, s2, true, rfl, Nat.le_trans HI.out HN.out, list_done HS1.out HT.out.step HI.out (.inl rfl) fun e => absurd e (by have := HLT.out; omega)⟩
        | false =>
          have HCALL := Lib.hid (HF.out wr k2 s2 false htk.step.rd)
          have hfid := HFID.out
          have HLT := Lib.hid hlt
          clear htk hi hlt
          go_wp2_with fail
          refine HCALL.out.mono ?_; rintro e w2 ⟨v0, a2, n2, c2, v1, k3, s3, b3, rfl, hu⟩
          have HU := Lib.hid hu
          clear hu hfid
          have hgo := HU.out.turn.size
          have ho2 := own_keep HT.out.own HU.out.turn (fun j e e2 => by have := (HT.out.own.lt j e).1; omega)
          have HO2 := Lib.hid ho2
          have h1 := HN.out
          have h2 := HM.out
          have h3 := HLT.out
          have HSZ : w1.heap.size ≤ w2.heap.size := Nat.le_trans HT.out.step.turn.size HU.out.turn.size
          clear ho2 hgo
          go_wp2_with (at_builtin; refine wpList_append_form rfl (.tmp 27) (.tmp 30) 24 rfl w1.heap.size 51 3 48 _ Tryz.underlying24 infoTSh rfl (by decide) a i c vs.flatten rfl (HO2.out.alloc _) ⟨w2.heap.size, 0, none⟩ 1 1 [.int .i64 v0, .slice a2 n2 c2, .string v1] rfl rfl (fun j u hj => by rw [Addr.add_lit, Nat.zero_add, (Blk.new w2 51 #[.int .i64 v0, .slice a2 n2 c2, .string v1]).cell j]; simpa using hj) (by simp [Value.oneCell']) (by decide) (by unfold maxLen; omega) (by omega) (by simp; omega) ?_; intro g4 c4 w4 hr4 ht4 hn4)
          go_roundw
          case rel =>
            refine ⟨vs ++ [[.int .i64 v0, .slice a2 n2 c2, .string v1]], some ⟨g4, 0, none⟩, i + 1, c4, k3, s3, b3, rfl, by omega, Tk.next (P := ShQ) (fun _ _ _ _ _ _ h k => h.keep k) HT.out hgl hbl HU.out rfl ((Still.refl w2).alloc _) (HO2.out.alloc _) ht4.out hr4.out ?_⟩
            rcases hn4.out with e | e
            · exact .inl (by rw [e]; rfl)
            · exact .inr fun j hj => by
                have : g4 = j := by simpa [Value.ownBlock] using hj
                rw [← this]; exact e
          case measure => simp [lenV]; omega
      · obtain rfl : i = n := by omega
        have x1 : decide ((i : Int) < i) = false := decide_eq_false (by omega)
        clear htk hi hlt
        go_wp2_with fail
        go_ret
        exact ⟨a, i, c, k2, s2, b2, rfl, HN.out, list_done HS1.out HT.out.step HI.out (.inr rfl) fun _ l hl => Tk.lies (P := ShQ) (fun _ _ _ _ _ _ h k => h.keep k) HT.out HS1.out.turn.size hl.1 hl.2⟩
theorem infoTTx : (Tryz.prog.info? 9).map (fun i => (i.zero, i.size, i.bytes)) = some (some (.string ⟨#[]⟩), 1, 16) := by kernel_rfl
set_option maxRecDepth 100000 in
set_option maxHeartbeats 1000000 in
theorem takeTx_any (p : M.Par ByteArray) (fid : FuncId) (hfid : ∀ args W, (callFunc fid args).run Tryz.prog W = .ok (.enter fid args) W) (most : Nat) (hm : most ≤ 1000000) {q : RP} (hq : q.ok) {w : World} {k sz : Nat} {bad : Bool} (h : Rd q w k sz bad)
    (hf : ∀ (W : World) (k sz : Nat) (bad : Bool), Rd q W k sz bad → Calls Tryz.prog fid #[.pointer (some ⟨q.g, 0, none⟩)] W fun e w' => ∃ (v0 : ByteArray) (k' sz' : Nat) (bad' : Bool), e = .returned (.string v0) ∧ StepR q p (fun x => (fun _ _ => TxIs) (Fresh W w') w' [.string v0] x) W w' k sz bad k' sz' bad') :
    Calls Tryz.prog 34 #[.pointer (some ⟨q.g, 0, none⟩), .int .i64 most, .func (.func fid) #[.pointer (some ⟨q.g, 0, none⟩)] #[]] w fun e w' => ∃ (a : Option Addr) (n c k' sz' : Nat) (bad' : Bool), e = .returned (.slice a n c) ∧ n ≤ most ∧ StepR q (M.pList most p) (fun l => LiesQ (Fresh w w') w' 1 ((fun _ _ => TxIs) (Fresh w w') w') a n l) w w' k sz bad k' sz' bad' := by
  have H := Lib.hid (rlength_any most hm hq h)
  have HM := Lib.hid hm
  have HF := Lib.hid hf
  have HFID := Lib.hid hfid
  clear h hq hm hf hfid
  go_enter Tryz.func34, Tryz.ntmps34
  go_wp2_with fail
  refine H.out.mono ?_; rintro e w1 ⟨n, k1, b1, rfl, hn1, hn2, hs⟩
  have HS1 := Lib.hid hs
  have HN := Lib.hid hn1
  clear hs hn1 hn2
  by_cases h0 : n = 0
  · subst h0
    go_wp2_with fail
    go_ret
    exact ⟨none, 0, 0, k1, sz, b1, rfl, Nat.zero_le _, list_done (i := 0) HS1.out (StepR.refl (V := fun l => l = []) HS1.out.rd rfl) (Nat.le_refl _) (.inr rfl) fun _ l hl => by subst hl; exact ⟨rfl, fun h => absurd h (by omega)⟩⟩
  · skip
    have x0 : ((n : Int) == 0) = false := beq_eq_false_iff_ne.2 (by omega)
    obtain ⟨C, hC, hmk⟩ : ∃ C : Array Value, C.size = n * 1 ∧ ∀ W, (Instr.makeSlice 25 (.int .i64 0) (.int .i64 (n : Int))).run Tryz.prog W = .ok (.slice (some ⟨W.heap.size, 0, none⟩) 0 n) (W.alloc (.cells C 9)) :=
      ⟨_, size_madeCells _ _, run_make_cap (P := Tryz.prog) 25 9 _ 1 16 Tryz.underlying25 infoTTx .i64 .i64 n (by have := HN.out; have := HM.out; omega) (by have := HN.out; have := HM.out; unfold maxLen; omega)⟩
    have HC := Lib.hid hC
    clear hC
    have H0 := Lib.hid h0
    clear h0
    have hgl := HS1.out.rd.blk.lt
    have hbl := HS1.out.rd.lt
    go_wp2_with fail
    go_loopw [8] (fun v wr => ∃ (vs : List (List Value)) (a : Option Addr) (i c k2 s2 : Nat) (b2 : Bool), v = .slice a i c ∧ i ≤ n ∧ Tk q p 9 1 (fun _ _ => TxIs) w1 k1 sz b1 vs a i c wr k2 s2 b2) (fun v _ => n - lenV v)
    case atStart =>
      have st : Still w1 (w1.alloc (.cells C 9)) := (Still.refl w1).alloc _
      exact ⟨[], _, 0, _, k1, sz, b1, rfl, Nat.zero_le _, Tk.none (HS1.out.rd.still st) st.turn (World.ownsRow_made w1 _ n (Nat.le_refl _) (by have := HN.out; have := HM.out; unfold maxLen; omega) HC.out)⟩
    case round =>
      obtain ⟨vs, a, i, c, k2, s2, b2, rfl, hi, htk⟩ := hrel
      obtain ⟨hl, d0, d1, d2, d3, f1, f2, f3⟩ := rd_cells htk.step.rd
      have HT := Lib.hid htk
      have HI := Lib.hid hi
      by_cases hlt : i < n
      · have x1 : decide ((i : Int) < n) = true := decide_eq_true (by omega)
        cases b2 with
        | true =>
          have HLT := Lib.hid hlt
          clear htk hi hlt
          go_wp2_with fail
          go_ret
          exact ⟨a, i, c, k2, s2, true, rfl, Nat.le_trans HI.out HN.out, list_done HS1.out HT.out.step HI.out (.inl rfl) fun e => absurd e (by have := HLT.out; omega)⟩
        | false =>
          have HCALL := Lib.hid (HF.out wr k2 s2 false htk.step.rd)
          have hfid := HFID.out
          have HLT := Lib.hid hlt
          clear htk hi hlt
          go_wp2_with fail
          refine HCALL.out.mono ?_; rintro e w2 ⟨v0, k3, s3, b3, rfl, hu⟩
          have HU := Lib.hid hu
          clear hu hfid
          have hgo := HU.out.turn.size
          have ho2 := own_keep HT.out.own HU.out.turn (fun j e e2 => by have := (HT.out.own.lt j e).1; omega)
          have HO2 := Lib.hid ho2
          have h1 := HN.out
          have h2 := HM.out
          have h3 := HLT.out
          have HSZ : w1.heap.size ≤ w2.heap.size := Nat.le_trans HT.out.step.turn.size HU.out.turn.size
          clear ho2 hgo
          go_wp2_with (at_builtin; refine wpList_append_form rfl (.tmp 27) (.tmp 30) 25 rfl w1.heap.size 9 1 16 _ Tryz.underlying25 infoTTx rfl (by decide) a i c vs.flatten rfl (HO2.out.alloc _) ⟨w2.heap.size, 0, none⟩ 1 1 [.string v0] rfl rfl (fun j u hj => by rw [Addr.add_lit, Nat.zero_add, (Blk.new w2 9 #[.string v0]).cell j]; simpa using hj) (by simp [Value.oneCell']) (by decide) (by unfold maxLen; omega) (by omega) (by simp; omega) ?_; intro g4 c4 w4 hr4 ht4 hn4)
          go_roundw
          case rel =>
            refine ⟨vs ++ [[.string v0]], some ⟨g4, 0, none⟩, i + 1, c4, k3, s3, b3, rfl, by omega, Tk.next (P := (fun _ _ => TxIs)) (fun _ _ _ _ _ _ h _ => h) HT.out hgl hbl HU.out rfl ((Still.refl w2).alloc _) (HO2.out.alloc _) ht4.out hr4.out ?_⟩
            rcases hn4.out with e | e
            · exact .inl (by rw [e]; rfl)
            · exact .inr fun j hj => by
                have : g4 = j := by simpa [Value.ownBlock] using hj
                rw [← this]; exact e
          case measure => simp [lenV]; omega
      · obtain rfl : i = n := by omega
        have x1 : decide ((i : Int) < i) = false := decide_eq_false (by omega)
        clear htk hi hlt
        go_wp2_with fail
        go_ret
        exact ⟨a, i, c, k2, s2, b2, rfl, HN.out, list_done HS1.out HT.out.step HI.out (.inr rfl) fun _ l hl => Tk.lies (P := (fun _ _ => TxIs)) (fun _ _ _ _ _ _ h _ => h) HT.out HS1.out.turn.size hl.1 hl.2⟩
theorem infoTFn : (Tryz.prog.info? 55).map (fun i => (i.zero, i.size, i.bytes)) = some (some (.agg #[.slice none 0 0, .int .i64 0, .int .i64 0, .slice none 0 0]), 4, 64) := by kernel_rfl
set_option maxRecDepth 100000 in
set_option maxHeartbeats 1000000 in
theorem takeFn_any (p : M.Par M.Fn) (fid : FuncId) (hfid : ∀ args W, (callFunc fid args).run Tryz.prog W = .ok (.enter fid args) W) (most : Nat) (hm : most ≤ 1000000) {q : RP} (hq : q.ok) {w : World} {k sz : Nat} {bad : Bool} (h : Rd q w k sz bad)
    (hf : ∀ (W : World) (k sz : Nat) (bad : Bool), Rd q W k sz bad → Calls Tryz.prog fid #[.pointer (some ⟨q.g, 0, none⟩)] W fun e w' => ∃ (a2 : Option Addr) (n2 c2 : Nat) (v0 v1 : Int) (a3 : Option Addr) (n3 c3 : Nat) (k' sz' : Nat) (bad' : Bool), e = .returned (.agg #[.slice a2 n2 c2, .int .i64 v0, .int .i64 v1, .slice a3 n3 c3]) ∧ StepR q p (fun x => FnQ (Fresh W w') w' [.slice a2 n2 c2, .int .i64 v0, .int .i64 v1, .slice a3 n3 c3] x) W w' k sz bad k' sz' bad') :
    Calls Tryz.prog 36 #[.pointer (some ⟨q.g, 0, none⟩), .int .i64 most, .func (.func fid) #[.pointer (some ⟨q.g, 0, none⟩)] #[]] w fun e w' => ∃ (a : Option Addr) (n c k' sz' : Nat) (bad' : Bool), e = .returned (.slice a n c) ∧ n ≤ most ∧ StepR q (M.pList most p) (fun l => LiesQ (Fresh w w') w' 4 (FnQ (Fresh w w') w') a n l) w w' k sz bad k' sz' bad' := by
  have H := Lib.hid (rlength_any most hm hq h)
  have HM := Lib.hid hm
  have HF := Lib.hid hf
  have HFID := Lib.hid hfid
  clear h hq hm hf hfid
  go_enter Tryz.func36, Tryz.ntmps36
  go_wp2_with fail
  refine H.out.mono ?_; rintro e w1 ⟨n, k1, b1, rfl, hn1, hn2, hs⟩
  have HS1 := Lib.hid hs
  have HN := Lib.hid hn1
  clear hs hn1 hn2
  by_cases h0 : n = 0
  · subst h0
    go_wp2_with fail
    go_ret
    exact ⟨none, 0, 0, k1, sz, b1, rfl, Nat.zero_le _, list_done (i := 0) HS1.out (StepR.refl (V := fun l => l = []) HS1.out.rd rfl) (Nat.le_refl _) (.inr rfl) fun _ l hl => by subst hl; exact ⟨rfl, fun h => absurd h (by omega)⟩⟩
  · skip
    have x0 : ((n : Int) == 0) = false := beq_eq_false_iff_ne.2 (by omega)
    obtain ⟨C, hC, hmk⟩ : ∃ C : Array Value, C.size = n * 4 ∧ ∀ W, (Instr.makeSlice 26 (.int .i64 0) (.int .i64 (n : Int))).run Tryz.prog W = .ok (.slice (some ⟨W.heap.size, 0, none⟩) 0 n) (W.alloc (.cells C 55)) :=
      ⟨_, size_madeCells _ _, run_make_cap (P := Tryz.prog) 26 55 _ 4 64 Tryz.underlying26 infoTFn .i64 .i64 n (by have := HN.out; have := HM.out; omega) (by have := HN.out; have := HM.out; unfold maxLen; omega)⟩
    have HC := Lib.hid hC
    clear hC
    have H0 := Lib.hid h0
    clear h0
    have hgl := HS1.out.rd.blk.lt
    have hbl := HS1.out.rd.lt
    go_wp2_with fail
    go_loopw [8] (fun v wr => ∃ (vs : List (List Value)) (a : Option Addr) (i c k2 s2 : Nat) (b2 : Bool), v = .slice a i c ∧ i ≤ n ∧ Tk q p 55 4 FnQ w1 k1 sz b1 vs a i c wr k2 s2 b2) (fun v _ => n - lenV v)
    case atStart =>
      have st : Still w1 (w1.alloc (.cells C 55)) := (Still.refl w1).alloc _
      exact ⟨[], _, 0, _, k1, sz, b1, rfl, Nat.zero_le _, Tk.none (HS1.out.rd.still st) st.turn (World.ownsRow_made w1 _ n (Nat.le_refl _) (by have := HN.out; have := HM.out; unfold maxLen; omega) HC.out)⟩
    case round =>
      obtain ⟨vs, a, i, c, k2, s2, b2, rfl, hi, htk⟩ := hrel
      obtain ⟨hl, d0, d1, d2, d3, f1, f2, f3⟩ := rd_cells htk.step.rd
      have HT := Lib.hid htk
      have HI := Lib.hid hi
      by_cases hlt : i < n
      · have x1 : decide ((i : Int) < n) = true := decide_eq_true (by omega)
        cases b2 with
        | true =>
          have HLT := Lib.hid hlt
          clear htk hi hlt
          go_wp2_with fail
          go_ret
          exact ⟨a, i, c, k2, s2, true, rfl, Nat.le_trans HI.out HN.out, list_done HS1.out HT.out.step HI.out (.inl rfl) fun e => absurd e (by have := HLT.out; omega)⟩
        | false =>
          have HCALL := Lib.hid (HF.out wr k2 s2 false htk.step.rd)
          have hfid := HFID.out
          have HLT := Lib.hid hlt
          clear htk hi hlt
          go_wp2_with fail
          refine HCALL.out.mono ?_; rintro e w2 ⟨a2, n2, c2, v0, v1, a3, n3, c3, k3, s3, b3, rfl, hu⟩
          have HU := Lib.hid hu
          clear hu hfid
          have hgo := HU.out.turn.size
          have ho2 := own_keep HT.out.own HU.out.turn (fun j e e2 => by have := (HT.out.own.lt j e).1; omega)
          have HO2 := Lib.hid ho2
          have h1 := HN.out
          have h2 := HM.out
          have h3 := HLT.out
          have HSZ : w1.heap.size ≤ w2.heap.size := Nat.le_trans HT.out.step.turn.size HU.out.turn.size
          clear ho2 hgo
          go_wp2_with (at_builtin; refine wpList_append_form rfl (.tmp 27) (.tmp 30) 26 rfl w1.heap.size 55 4 64 _ Tryz.underlying26 infoTFn rfl (by decide) a i c vs.flatten rfl (HO2.out.alloc _) ⟨w2.heap.size, 0, none⟩ 1 1 [.slice a2 n2 c2, .int .i64 v0, .int .i64 v1, .slice a3 n3 c3] rfl rfl (fun j u hj => by rw [Addr.add_lit, Nat.zero_add, (Blk.new w2 55 #[.slice a2 n2 c2, .int .i64 v0, .int .i64 v1, .slice a3 n3 c3]).cell j]; simpa using hj) (by simp [Value.oneCell']) (by decide) (by unfold maxLen; omega) (by omega) (by simp; omega) ?_; intro g4 c4 w4 hr4 ht4 hn4)
          go_roundw
          case rel =>
            refine ⟨vs ++ [[.slice a2 n2 c2, .int .i64 v0, .int .i64 v1, .slice a3 n3 c3]], some ⟨g4, 0, none⟩, i + 1, c4, k3, s3, b3, rfl, by omega, Tk.next (P := FnQ) (fun _ _ _ _ _ _ h k => h.keep k) HT.out hgl hbl HU.out rfl ((Still.refl w2).alloc _) (HO2.out.alloc _) ht4.out hr4.out ?_⟩
            rcases hn4.out with e | e
            · exact .inl (by rw [e]; rfl)
            · exact .inr fun j hj => by
                have : g4 = j := by simpa [Value.ownBlock] using hj
                rw [← this]; exact e
          case measure => simp [lenV]; omega
      · obtain rfl : i = n := by omega
        have x1 : decide ((i : Int) < i) = false := decide_eq_false (by omega)
        clear htk hi hlt
        go_wp2_with fail
        go_ret
        exact ⟨a, i, c, k2, s2, b2, rfl, HN.out, list_done HS1.out HT.out.step HI.out (.inr rfl) fun _ l hl => Tk.lies (P := FnQ) (fun _ _ _ _ _ _ h k => h.keep k) HT.out HS1.out.turn.size hl.1 hl.2⟩
theorem infoTInt : (Tryz.prog.info? 3).map (fun i => (i.zero, i.size, i.bytes)) = some (some (.int .i64 0), 1, 8) := by kernel_rfl
set_option maxRecDepth 100000 in
set_option maxHeartbeats 1000000 in
theorem takeInt_any (p : M.Par Int) (fid : FuncId) (hfid : ∀ args W, (callFunc fid args).run Tryz.prog W = .ok (.enter fid args) W) (most : Nat) (hm : most ≤ 1000000) {q : RP} (hq : q.ok) {w : World} {k sz : Nat} {bad : Bool} (h : Rd q w k sz bad)
    (hf : ∀ (W : World) (k sz : Nat) (bad : Bool), Rd q W k sz bad → Calls Tryz.prog fid #[.pointer (some ⟨q.g, 0, none⟩)] W fun e w' => ∃ (v0 : Int) (k' sz' : Nat) (bad' : Bool), e = .returned (.int .i64 v0) ∧ StepR q p (fun x => (fun _ _ => IntIs) (Fresh W w') w' [.int .i64 v0] x) W w' k sz bad k' sz' bad') :
    Calls Tryz.prog 59 #[.pointer (some ⟨q.g, 0, none⟩), .int .i64 most, .func (.func fid) #[.pointer (some ⟨q.g, 0, none⟩)] #[]] w fun e w' => ∃ (a : Option Addr) (n c k' sz' : Nat) (bad' : Bool), e = .returned (.slice a n c) ∧ n ≤ most ∧ StepR q (M.pList most p) (fun l => LiesQ (Fresh w w') w' 1 ((fun _ _ => IntIs) (Fresh w w') w') a n l) w w' k sz bad k' sz' bad' := by
  have H := Lib.hid (rlength_any most hm hq h)
  have HM := Lib.hid hm
  have HF := Lib.hid hf
  have HFID := Lib.hid hfid
  clear h hq hm hf hfid
  go_enter Tryz.func59, Tryz.ntmps59
  go_wp2_with fail
  refine H.out.mono ?_; rintro e w1 ⟨n, k1, b1, rfl, hn1, hn2, hs⟩
  have HS1 := Lib.hid hs
  have HN := Lib.hid hn1
  clear hs hn1 hn2
  by_cases h0 : n = 0
  · subst h0
    go_wp2_with fail
    go_ret
    exact ⟨none, 0, 0, k1, sz, b1, rfl, Nat.zero_le _, list_done (i := 0) HS1.out (StepR.refl (V := fun l => l = []) HS1.out.rd rfl) (Nat.le_refl _) (.inr rfl) fun _ l hl => by subst hl; exact ⟨rfl, fun h => absurd h (by omega)⟩⟩
  · skip
    have x0 : ((n : Int) == 0) = false := beq_eq_false_iff_ne.2 (by omega)
    obtain ⟨C, hC, hmk⟩ : ∃ C : Array Value, C.size = n * 1 ∧ ∀ W, (Instr.makeSlice 46 (.int .i64 0) (.int .i64 (n : Int))).run Tryz.prog W = .ok (.slice (some ⟨W.heap.size, 0, none⟩) 0 n) (W.alloc (.cells C 3)) :=
      ⟨_, size_madeCells _ _, run_make_cap (P := Tryz.prog) 46 3 _ 1 8 Tryz.underlying46 infoTInt .i64 .i64 n (by have := HN.out; have := HM.out; omega) (by have := HN.out; have := HM.out; unfold maxLen; omega)⟩
    have HC := Lib.hid hC
    clear hC
    have H0 := Lib.hid h0
    clear h0
    have hgl := HS1.out.rd.blk.lt
    have hbl := HS1.out.rd.lt
    go_wp2_with fail
    go_loopw [8] (fun v wr => ∃ (vs : List (List Value)) (a : Option Addr) (i c k2 s2 : Nat) (b2 : Bool), v = .slice a i c ∧ i ≤ n ∧ Tk q p 3 1 (fun _ _ => IntIs) w1 k1 sz b1 vs a i c wr k2 s2 b2) (fun v _ => n - lenV v)
    case atStart =>
      have st : Still w1 (w1.alloc (.cells C 3)) := (Still.refl w1).alloc _
      exact ⟨[], _, 0, _, k1, sz, b1, rfl, Nat.zero_le _, Tk.none (HS1.out.rd.still st) st.turn (World.ownsRow_made w1 _ n (Nat.le_refl _) (by have := HN.out; have := HM.out; unfold maxLen; omega) HC.out)⟩
    case round =>
      obtain ⟨vs, a, i, c, k2, s2, b2, rfl, hi, htk⟩ := hrel
      obtain ⟨hl, d0, d1, d2, d3, f1, f2, f3⟩ := rd_cells htk.step.rd
      have HT := Lib.hid htk
      have HI := Lib.hid hi
      by_cases hlt : i < n
      · have x1 : decide ((i : Int) < n) = true := decide_eq_true (by omega)
        cases b2 with
        | true =>
          have HLT := Lib.hid hlt
          clear htk hi hlt
          go_wp2_with fail
          go_ret
          exact ⟨a, i, c, k2, s2, true, rfl, Nat.le_trans HI.out HN.out, list_done HS1.out HT.out.step HI.out (.inl rfl) fun e => absurd e (by have := HLT.out; omega)⟩
        | false =>
          have HCALL := Lib.hid (HF.out wr k2 s2 false htk.step.rd)
          have hfid := HFID.out
          have HLT := Lib.hid hlt
          clear htk hi hlt
          go_wp2_with fail
          refine HCALL.out.mono ?_; rintro e w2 ⟨v0, k3, s3, b3, rfl, hu⟩
          have HU := Lib.hid hu
          clear hu hfid
          have hgo := HU.out.turn.size
          have ho2 := own_keep HT.out.own HU.out.turn (fun j e e2 => by have := (HT.out.own.lt j e).1; omega)
          have HO2 := Lib.hid ho2
          have h1 := HN.out
          have h2 := HM.out
          have h3 := HLT.out
          have HSZ : w1.heap.size ≤ w2.heap.size := Nat.le_trans HT.out.step.turn.size HU.out.turn.size
          clear ho2 hgo
          go_wp2_with (at_builtin; refine wpList_append_form rfl (.tmp 27) (.tmp 30) 46 rfl w1.heap.size 3 1 8 _ Tryz.underlying46 infoTInt rfl (by decide) a i c vs.flatten rfl (HO2.out.alloc _) ⟨w2.heap.size, 0, none⟩ 1 1 [.int .i64 v0] rfl rfl (fun j u hj => by rw [Addr.add_lit, Nat.zero_add, (Blk.new w2 3 #[.int .i64 v0]).cell j]; simpa using hj) (by simp [Value.oneCell']) (by decide) (by unfold maxLen; omega) (by omega) (by simp; omega) ?_; intro g4 c4 w4 hr4 ht4 hn4)
          go_roundw
          case rel =>
            refine ⟨vs ++ [[.int .i64 v0]], some ⟨g4, 0, none⟩, i + 1, c4, k3, s3, b3, rfl, by omega, Tk.next (P := (fun _ _ => IntIs)) (fun _ _ _ _ _ _ h _ => h) HT.out hgl hbl HU.out rfl ((Still.refl w2).alloc _) (HO2.out.alloc _) ht4.out hr4.out ?_⟩
            rcases hn4.out with e | e
            · exact .inl (by rw [e]; rfl)
            · exact .inr fun j hj => by
                have : g4 = j := by simpa [Value.ownBlock] using hj
                rw [← this]; exact e
          case measure => simp [lenV]; omega
      · obtain rfl : i = n := by omega
        have x1 : decide ((i : Int) < i) = false := decide_eq_false (by omega)
        clear htk hi hlt
        go_wp2_with fail
        go_ret
        exact ⟨a, i, c, k2, s2, b2, rfl, HN.out, list_done HS1.out HT.out.step HI.out (.inr rfl) fun _ l hl => Tk.lies (P := (fun _ _ => IntIs)) (fun _ _ _ _ _ _ h _ => h) HT.out HS1.out.turn.size hl.1 hl.2⟩
theorem infoTBk : (Tryz.prog.info? 85).map (fun i => (i.zero, i.size, i.bytes)) = some (some (.agg #[.slice none 0 0, .slice none 0 0]), 2, 48) := by kernel_rfl
set_option maxRecDepth 100000 in
set_option maxHeartbeats 1000000 in
theorem takeBk_any (p : M.Par M.Bk) (fid : FuncId) (hfid : ∀ args W, (callFunc fid args).run Tryz.prog W = .ok (.enter fid args) W) (most : Nat) (hm : most ≤ 1000000) {q : RP} (hq : q.ok) {w : World} {k sz : Nat} {bad : Bool} (h : Rd q w k sz bad)
    (hf : ∀ (W : World) (k sz : Nat) (bad : Bool), Rd q W k sz bad → Calls Tryz.prog fid #[.pointer (some ⟨q.g, 0, none⟩)] W fun e w' => ∃ (a2 : Option Addr) (n2 c2 : Nat) (a3 : Option Addr) (n3 c3 : Nat) (k' sz' : Nat) (bad' : Bool), e = .returned (.agg #[.slice a2 n2 c2, .slice a3 n3 c3]) ∧ StepR q p (fun x => BkQ (Fresh W w') w' [.slice a2 n2 c2, .slice a3 n3 c3] x) W w' k sz bad k' sz' bad') :
    Calls Tryz.prog 60 #[.pointer (some ⟨q.g, 0, none⟩), .int .i64 most, .func (.func fid) #[.pointer (some ⟨q.g, 0, none⟩)] #[]] w fun e w' => ∃ (a : Option Addr) (n c k' sz' : Nat) (bad' : Bool), e = .returned (.slice a n c) ∧ n ≤ most ∧ StepR q (M.pList most p) (fun l => LiesQ (Fresh w w') w' 2 (BkQ (Fresh w w') w') a n l) w w' k sz bad k' sz' bad' := by
  have H := Lib.hid (rlength_any most hm hq h)
  have HM := Lib.hid hm
  have HF := Lib.hid hf
  have HFID := Lib.hid hfid
  clear h hq hm hf hfid
  go_enter Tryz.func60, Tryz.ntmps60
  go_wp2_with fail
  refine H.out.mono ?_; rintro e w1 ⟨n, k1, b1, rfl, hn1, hn2, hs⟩
  have HS1 := Lib.hid hs
  have HN := Lib.hid hn1
  clear hs hn1 hn2
  by_cases h0 : n = 0
  · subst h0
    go_wp2_with fail
    go_ret
    exact ⟨none, 0, 0, k1, sz, b1, rfl, Nat.zero_le _, list_done (i := 0) HS1.out (StepR.refl (V := fun l => l = []) HS1.out.rd rfl) (Nat.le_refl _) (.inr rfl) fun _ l hl => by subst hl; exact ⟨rfl, fun h => absurd h (by omega)⟩⟩
  · skip
    have x0 : ((n : Int) == 0) = false := beq_eq_false_iff_ne.2 (by omega)
    obtain ⟨C, hC, hmk⟩ : ∃ C : Array Value, C.size = n * 2 ∧ ∀ W, (Instr.makeSlice 53 (.int .i64 0) (.int .i64 (n : Int))).run Tryz.prog W = .ok (.slice (some ⟨W.heap.size, 0, none⟩) 0 n) (W.alloc (.cells C 85)) :=
      ⟨_, size_madeCells _ _, run_make_cap (P := Tryz.prog) 53 85 _ 2 48 Tryz.underlying53 infoTBk .i64 .i64 n (by have := HN.out; have := HM.out; omega) (by have := HN.out; have := HM.out; unfold maxLen; omega)⟩
    have HC := Lib.hid hC
    clear hC
    have H0 := Lib.hid h0
    clear h0
    have hgl := HS1.out.rd.blk.lt
    have hbl := HS1.out.rd.lt
    go_wp2_with fail
    go_loopw [8] (fun v wr => ∃ (vs : List (List Value)) (a : Option Addr) (i c k2 s2 : Nat) (b2 : Bool), v = .slice a i c ∧ i ≤ n ∧ Tk q p 85 2 BkQ w1 k1 sz b1 vs a i c wr k2 s2 b2) (fun v _ => n - lenV v)
    case atStart =>
      have st : Still w1 (w1.alloc (.cells C 85)) := (Still.refl w1).alloc _
      exact ⟨[], _, 0, _, k1, sz, b1, rfl, Nat.zero_le _, Tk.none (HS1.out.rd.still st) st.turn (World.ownsRow_made w1 _ n (Nat.le_refl _) (by have := HN.out; have := HM.out; unfold maxLen; omega) HC.out)⟩
    case round =>
      obtain ⟨vs, a, i, c, k2, s2, b2, rfl, hi, htk⟩ := hrel
      obtain ⟨hl, d0, d1, d2, d3, f1, f2, f3⟩ := rd_cells htk.step.rd
      have HT := Lib.hid htk
      have HI := Lib.hid hi
      by_cases hlt : i < n
      · have x1 : decide ((i : Int) < n) = true := decide_eq_true (by omega)
        cases b2 with
        | true =>
          have HLT := Lib.hid hlt
          clear htk hi hlt
          go_wp2_with fail
          go_ret
          exact ⟨a, i, c, k2, s2, true, rfl, Nat.le_trans HI.out HN.out, list_done HS1.out HT.out.step HI.out (.inl rfl) fun e => absurd e (by have := HLT.out; omega)⟩
        | false =>
          have HCALL := Lib.hid (HF.out wr k2 s2 false htk.step.rd)
          have hfid := HFID.out
          have HLT := Lib.hid hlt
          clear htk hi hlt
          go_wp2_with fail
          refine HCALL.out.mono ?_; rintro e w2 ⟨a2, n2, c2, a3, n3, c3, k3, s3, b3, rfl, hu⟩
          have HU := Lib.hid hu
          clear hu hfid
          have hgo := HU.out.turn.size
          have ho2 := own_keep HT.out.own HU.out.turn (fun j e e2 => by have := (HT.out.own.lt j e).1; omega)
          have HO2 := Lib.hid ho2
          have h1 := HN.out
          have h2 := HM.out
          have h3 := HLT.out
          have HSZ : w1.heap.size ≤ w2.heap.size := Nat.le_trans HT.out.step.turn.size HU.out.turn.size
          clear ho2 hgo
          go_wp2_with (at_builtin; refine wpList_append_form rfl (.tmp 27) (.tmp 30) 53 rfl w1.heap.size 85 2 48 _ Tryz.underlying53 infoTBk rfl (by decide) a i c vs.flatten rfl (HO2.out.alloc _) ⟨w2.heap.size, 0, none⟩ 1 1 [.slice a2 n2 c2, .slice a3 n3 c3] rfl rfl (fun j u hj => by rw [Addr.add_lit, Nat.zero_add, (Blk.new w2 85 #[.slice a2 n2 c2, .slice a3 n3 c3]).cell j]; simpa using hj) (by simp [Value.oneCell']) (by decide) (by unfold maxLen; omega) (by omega) (by simp; omega) ?_; intro g4 c4 w4 hr4 ht4 hn4)
          go_roundw
          case rel =>
            refine ⟨vs ++ [[.slice a2 n2 c2, .slice a3 n3 c3]], some ⟨g4, 0, none⟩, i + 1, c4, k3, s3, b3, rfl, by omega, Tk.next (P := BkQ) (fun _ _ _ _ _ _ h k => h.keep k) HT.out hgl hbl HU.out rfl ((Still.refl w2).alloc _) (HO2.out.alloc _) ht4.out hr4.out ?_⟩
            rcases hn4.out with e | e
            · exact .inl (by rw [e]; rfl)
            · exact .inr fun j hj => by
                have : g4 = j := by simpa [Value.ownBlock] using hj
                rw [← this]; exact e
          case measure => simp [lenV]; omega
      · obtain rfl : i = n := by omega
        have x1 : decide ((i : Int) < i) = false := decide_eq_false (by omega)
        clear htk hi hlt
        go_wp2_with fail
        go_ret
        exact ⟨a, i, c, k2, s2, b2, rfl, HN.out, list_done HS1.out HT.out.step HI.out (.inr rfl) fun _ l hl => Tk.lies (P := BkQ) (fun _ _ _ _ _ _ h k => h.keep k) HT.out HS1.out.turn.size hl.1 hl.2⟩
theorem infoTIns : (Tryz.prog.info? 70).map (fun i => (i.zero, i.size, i.bytes)) = some (some (.agg #[.int .i64 0, .int .i64 0, .int .i64 0, .int .i64 0, .int .i64 0, .int .i64 0, .slice none 0 0, .slice none 0 0, .slice none 0 0]), 9, 120) := by kernel_rfl
set_option maxRecDepth 100000 in
set_option maxHeartbeats 1000000 in
theorem takeIns_any (p : M.Par M.Ins) (fid : FuncId) (hfid : ∀ args W, (callFunc fid args).run Tryz.prog W = .ok (.enter fid args) W) (most : Nat) (hm : most ≤ 1000000) {q : RP} (hq : q.ok) {w : World} {k sz : Nat} {bad : Bool} (h : Rd q w k sz bad)
    (hf : ∀ (W : World) (k sz : Nat) (bad : Bool), Rd q W k sz bad → Calls Tryz.prog fid #[.pointer (some ⟨q.g, 0, none⟩)] W fun e w' => ∃ (v0 v1 v2 v3 v4 v5 : Int) (la : Option Addr) (ln lc : Nat) (ma : Option Addr) (mn mc : Nat) (va : Option Addr) (vn vc : Nat) (k' sz' : Nat) (bad' : Bool), e = .returned (.agg #[.int .i64 v0, .int .i64 v1, .int .i64 v2, .int .i64 v3, .int .i64 v4, .int .i64 v5, .slice la ln lc, .slice ma mn mc, .slice va vn vc]) ∧ StepR q p (fun x => InsQ (Fresh W w') w' [.int .i64 v0, .int .i64 v1, .int .i64 v2, .int .i64 v3, .int .i64 v4, .int .i64 v5, .slice la ln lc, .slice ma mn mc, .slice va vn vc] x) W w' k sz bad k' sz' bad') :
    Calls Tryz.prog 89 #[.pointer (some ⟨q.g, 0, none⟩), .int .i64 most, .func (.func fid) #[.pointer (some ⟨q.g, 0, none⟩)] #[]] w fun e w' => ∃ (a : Option Addr) (n c k' sz' : Nat) (bad' : Bool), e = .returned (.slice a n c) ∧ n ≤ most ∧ StepR q (M.pList most p) (fun l => LiesQ (Fresh w w') w' 9 (InsQ (Fresh w w') w') a n l) w w' k sz bad k' sz' bad' := by
  have H := Lib.hid (rlength_any most hm hq h)
  have HM := Lib.hid hm
  have HF := Lib.hid hf
  have HFID := Lib.hid hfid
  clear h hq hm hf hfid
  go_enter Tryz.func89, Tryz.ntmps89
  go_wp2_with fail
  refine H.out.mono ?_; rintro e w1 ⟨n, k1, b1, rfl, hn1, hn2, hs⟩
  have HS1 := Lib.hid hs
  have HN := Lib.hid hn1
  clear hs hn1 hn2
  by_cases h0 : n = 0
  · subst h0
    go_wp2_with fail
    go_ret
    exact ⟨none, 0, 0, k1, sz, b1, rfl, Nat.zero_le _, list_done (i := 0) HS1.out (StepR.refl (V := fun l => l = []) HS1.out.rd rfl) (Nat.le_refl _) (.inr rfl) fun _ l hl => by subst hl; exact ⟨rfl, fun h => absurd h (by omega)⟩⟩
  · skip
    have x0 : ((n : Int) == 0) = false := beq_eq_false_iff_ne.2 (by omega)
    obtain ⟨C, hC, hmk⟩ : ∃ C : Array Value, C.size = n * 9 ∧ ∀ W, (Instr.makeSlice 83 (.int .i64 0) (.int .i64 (n : Int))).run Tryz.prog W = .ok (.slice (some ⟨W.heap.size, 0, none⟩) 0 n) (W.alloc (.cells C 70)) :=
      ⟨_, size_madeCells _ _, run_make_cap (P := Tryz.prog) 83 70 _ 9 120 Tryz.underlying83 infoTIns .i64 .i64 n (by have := HN.out; have := HM.out; omega) (by have := HN.out; have := HM.out; unfold maxLen; omega)⟩
    have HC := Lib.hid hC
    clear hC
    have H0 := Lib.hid h0
    clear h0
    have hgl := HS1.out.rd.blk.lt
    have hbl := HS1.out.rd.lt
    go_wp2_with fail
    go_loopw [8] (fun v wr => ∃ (vs : List (List Value)) (a : Option Addr) (i c k2 s2 : Nat) (b2 : Bool), v = .slice a i c ∧ i ≤ n ∧ Tk q p 70 9 InsQ w1 k1 sz b1 vs a i c wr k2 s2 b2) (fun v _ => n - lenV v)
    case atStart =>
      have st : Still w1 (w1.alloc (.cells C 70)) := (Still.refl w1).alloc _
      exact ⟨[], _, 0, _, k1, sz, b1, rfl, Nat.zero_le _, Tk.none (HS1.out.rd.still st) st.turn (World.ownsRow_made w1 _ n (Nat.le_refl _) (by have := HN.out; have := HM.out; unfold maxLen; omega) HC.out)⟩
    case round =>
      obtain ⟨vs, a, i, c, k2, s2, b2, rfl, hi, htk⟩ := hrel
      obtain ⟨hl, d0, d1, d2, d3, f1, f2, f3⟩ := rd_cells htk.step.rd
      have HT := Lib.hid htk
      have HI := Lib.hid hi
      by_cases hlt : i < n
      · have x1 : decide ((i : Int) < n) = true := decide_eq_true (by omega)
        cases b2 with
        | true =>
          have HLT := Lib.hid hlt
          clear htk hi hlt
          go_wp2_with fail
          go_ret
          exact ⟨a, i, c, k2, s2, true, rfl, Nat.le_trans HI.out HN.out, list_done HS1.out HT.out.step HI.out (.inl rfl) fun e => absurd e (by have := HLT.out; omega)⟩
        | false =>
          have HCALL := Lib.hid (HF.out wr k2 s2 false htk.step.rd)
          have hfid := HFID.out
          have HLT := Lib.hid hlt
          clear htk hi hlt
          go_wp2_with fail
          refine HCALL.out.mono ?_; rintro e w2 ⟨v0, v1, v2, v3, v4, v5, la, ln, lc, ma, mn, mc, va, vn, vc, k3, s3, b3, rfl, hu⟩
          have HU := Lib.hid hu
          clear hu hfid
          have hgo := HU.out.turn.size
          have ho2 := own_keep HT.out.own HU.out.turn (fun j e e2 => by have := (HT.out.own.lt j e).1; omega)
          have HO2 := Lib.hid ho2
          have h1 := HN.out
          have h2 := HM.out
          have h3 := HLT.out
          have HSZ : w1.heap.size ≤ w2.heap.size := Nat.le_trans HT.out.step.turn.size HU.out.turn.size
          clear ho2 hgo
          go_wp2_with (at_builtin; refine wpList_append_form rfl (.tmp 27) (.tmp 30) 83 rfl w1.heap.size 70 9 120 _ Tryz.underlying83 infoTIns rfl (by decide) a i c vs.flatten rfl (HO2.out.alloc _) ⟨w2.heap.size, 0, none⟩ 1 1 [.int .i64 v0, .int .i64 v1, .int .i64 v2, .int .i64 v3, .int .i64 v4, .int .i64 v5, .slice la ln lc, .slice ma mn mc, .slice va vn vc] rfl rfl (fun j u hj => by rw [Addr.add_lit, Nat.zero_add, (Blk.new w2 70 #[.int .i64 v0, .int .i64 v1, .int .i64 v2, .int .i64 v3, .int .i64 v4, .int .i64 v5, .slice la ln lc, .slice ma mn mc, .slice va vn vc]).cell j]; simpa using hj) (by simp [Value.oneCell']) (by decide) (by unfold maxLen; omega) (by omega) (by simp; omega) ?_; intro g4 c4 w4 hr4 ht4 hn4)
          go_roundw
          case rel =>
            refine ⟨vs ++ [[.int .i64 v0, .int .i64 v1, .int .i64 v2, .int .i64 v3, .int .i64 v4, .int .i64 v5, .slice la ln lc, .slice ma mn mc, .slice va vn vc]], some ⟨g4, 0, none⟩, i + 1, c4, k3, s3, b3, rfl, by omega, Tk.next (P := InsQ) (fun _ _ _ _ _ _ h k => h.keep k) HT.out hgl hbl HU.out rfl ((Still.refl w2).alloc _) (HO2.out.alloc _) ht4.out hr4.out ?_⟩
            rcases hn4.out with e | e
            · exact .inl (by rw [e]; rfl)
            · exact .inr fun j hj => by
                have : g4 = j := by simpa [Value.ownBlock] using hj
                rw [← this]; exact e
          case measure => simp [lenV]; omega
      · obtain rfl : i = n := by omega
        have x1 : decide ((i : Int) < i) = false := decide_eq_false (by omega)
        clear htk hi hlt
        go_wp2_with fail
        go_ret
        exact ⟨a, i, c, k2, s2, b2, rfl, HN.out, list_done HS1.out HT.out.step HI.out (.inr rfl) fun _ l hl => Tk.lies (P := InsQ) (fun _ _ _ _ _ _ h k => h.keep k) HT.out HS1.out.turn.size hl.1 hl.2⟩
end Go.Proofs.YthlifflapgccbaaGreat
