/- The reader of lex in memory: texts. -/
import Derived.Test.YtpccfimjkffkfaaDoorLxEsc
import Derived.Test.YtpccfimjkffkfaaDoorAppend
import Derived.Test.YtpccfimjkffkfaaDoorStill
namespace Go.Proofs.YtpccfimjkffkfaaDoor
set_option linter.unusedVariables false
set_option linter.unusedSimpArgs false
open Go.ChangeShapes Go.WideShapes Go.ChangeAt Go.RowKit
def u8s (l : List Nat) : List Value := l.map fun (c : Nat) => Value.int .u8 (c : Int)
theorem u8s_ints (l : List Nat) : u8s l = (l.map fun (c : Nat) => (c : Int)).map (Value.int .u8) := by simp [u8s]
theorem strOf_u8s (l : List Nat) : strOfNums (l.map fun (c : Nat) => (c : Int)) = Lx.str l := by
  unfold strOfNums Lx.str
  simp
theorem own_string {w : World} {base : Nat} {v : Value} {n : Nat} {xs : List Nat} (h : w.ownsRow base 5 1 v n (u8s xs)) :
    (convert 40 9 v).run Tryd.prog w = .ok (.string (Lx.str xs)) w := by
  obtain ⟨hl, h⟩ := h
  have hln : xs.length = n := by simpa [u8s] using hl
  rcases h with ⟨rfl, rfl⟩ | ⟨g, cap, cur, rfl, hb, hg, h1, h2, h3, h4⟩
  · have : xs = [] := List.length_eq_zero_iff.1 hln
    subst this
    exact run_convert_bytes_nil w 40 5 Tryd.underlying40 Tryd.underlying5 0 0 9 Tryd.underlying9
  · rw [← strOf_u8s]
    refine run_convert_bytes_arg w 40 5 Tryd.underlying40 Tryd.underlying5 g 0 n cap (xs.map fun (c : Nat) => (c : Int)) (by simpa using hln) ?_ 9 Tryd.underlying9
    intro i hi
    have hx : (cur.toList.take (n * 1))[i]? = some (.int .u8 ((xs.map fun (c : Nat) => (c : Int)).getD i 0)) := by
      rw [h4, u8s_ints]; simp [List.getD, List.getElem?_eq_getElem (show i < xs.length by omega)]
    rw [List.getElem?_take_of_lt (by omega)] at hx
    rw [Array.getElem?_toList] at hx
    simp only [World.cell?, hg, Nat.zero_add]
    simpa using hx
theorem infoU8 : (Tryd.prog.info? 5).map (fun i => (i.zero, i.size, i.bytes)) = some (some (.int .u8 0), 1, 1) := by kernel_rfl
theorem text_step' {s : ByteArray} {k k1 : Nat} {acc : List Nat} (hk : k1 ≤ k) (hlt : k < s.size) (h34 : ¬ s[k].toNat = 34) {v n : Nat} (hu : Lx.unit ((Lx.bs s).drop k) = some (v, n))
    (h : Lx.text ((Lx.bs s).drop k1) = (Lx.text ((Lx.bs s).drop k)).map (fun x => (acc ++ x.1, x.2 + (k - k1)))) : Lx.text ((Lx.bs s).drop k1) = (Lx.text ((Lx.bs s).drop (k + n))).map (fun x => ((acc ++ [v]) ++ x.1, x.2 + (k + n - k1))) := by
  rw [h]
  have hd := Lx.drop_lt hlt
  have : Lx.text ((Lx.bs s).drop k) = (Lx.text ((Lx.bs s).drop (k + n))).map (fun x => (v :: x.1, x.2 + n)) := by
    rw [hd] at hu ⊢
    rw [Lx.text_step h34, hu]
    dsimp only
    rw [← hd, List.drop_drop]
  rw [this, Option.map_map]
  congr 1
  funext x
  simp only [Function.comp, Prod.mk.injEq, List.append_assoc, List.singleton_append, true_and]
  omega
theorem esc_small {L : List Nat} (hL : ∀ c ∈ L, c < 256) {v n : Nat} (h : Lx.esc L = some (v, n)) : v < 256 := by
  unfold Lx.esc at h
  split at h
  · cases h
  · split at h
    · split at h
      · split at h
        · rename_i hh; cases h; omega
        · cases h
      · cases h
    · split at h
      · cases h; decide
      · split at h
        · cases h; decide
        · split at h
          · cases h; decide
          · split at h
            · cases h; decide
            · cases h
theorem unit_small {L : List Nat} (hL : ∀ c ∈ L, c < 256) {v n : Nat} (h : Lx.unit L = some (v, n)) : v < 256 := by
  unfold Lx.unit at h
  split at h
  · cases h
  · rename_i c l
    split at h
    · obtain ⟨⟨a, b⟩, hb, e⟩ := Option.map_eq_some_iff.1 h
      cases e
      exact esc_small (fun d hd => hL d (List.mem_cons_of_mem _ hd)) hb
    · split at h
      · cases h
      · cases h; exact hL _ List.mem_cons_self
/-- What the reader took of a text so far. -/
structure Txt (w wr : World) (g : Nat) (s : ByteArray) (k1 mb : Nat) (a : Option Addr) (n c : Nat) (acc : List Nat) (k : Nat) : Prop where
  rd : Rdr wr g s k mb
  turn : At g w wr
  box : Blk wr w.heap.size 31 #[.int .i64 0, .int .i64 0, .string ByteArray.empty, .int .i64 0]
  own : wr.ownsRow (w.heap.size + 1) 5 1 (.slice a n c) n (u8s acc)
  len : acc.length = n
  le : k1 ≤ k ∧ n ≤ k
  eq : Lx.text ((Lx.bs s).drop k1) = (Lx.text ((Lx.bs s).drop k)).map (fun x => (acc ++ x.1, x.2 + (k - k1)))
set_option maxHeartbeats 8000000 in
theorem text_any {w : World} {g : Nat} {s : ByteArray} {k mb : Nat} (h : Rdr w g s k mb) (hlt0 : k < s.size) (hs : s[k].toNat = 34) :
    Calls Tryd.prog 48 #[.pointer (some ⟨g, 0, none⟩)] w (TakeR w g s k mb) := by
  have hd := Lx.drop_lt hlt0
  have hg := h.blk.lt
  have hf := h.few
  have hgn : g ≠ w.heap.size := by omega
  have htok : Lx.tok ((Lx.bs s).drop k) = (Lx.text ((Lx.bs s).drop (k + 1))).map fun x => (⟨2, x.1, 0⟩, x.2 + 1) := by
    have h0 : ((Lx.bs s).drop k).headD 0 = 34 := by rw [hd, hs]; rfl
    have ht : ((Lx.bs s).drop k).tail = (Lx.bs s).drop (k + 1) := by rw [hd]; rfl
    unfold Lx.tok
    simp only [h0, ht]
    rw [if_neg (by decide), if_pos trivial]
  obtain ⟨wB, hwB⟩ : ∃ wB, (w.setCell ⟨g, 1, none⟩ (.int .i64 ((k : Int) + 1))).alloc (.cells #[.int .i64 0, .int .i64 0, .string ByteArray.empty, .int .i64 0] 31) = wB := ⟨_, rfl⟩
  have hws : (w.setCell ⟨g, 1, none⟩ (.int .i64 ((k : Int) + 1))).heap.size = w.heap.size := World.size_setCell _ _ _
  have TB : At g w wB := hwB ▸ (At.set (Turn.refl _ w) 1 _).alloc _
  have BB : Blk wB w.heap.size 31 #[.int .i64 0, .int .i64 0, .string ByteArray.empty, .int .i64 0] := by
    have := Blk.new (w.setCell ⟨g, 1, none⟩ (.int .i64 ((k : Int) + 1))) 31 #[.int .i64 0, .int .i64 0, .string ByteArray.empty, .int .i64 0]
    rw [hws, hwB] at this
    exact this
  have RB : Rdr wB g s (k + 1) mb := hwB ▸ (h.set (k' := k + 1) hlt0).still ((Still.refl _).alloc _)
  have HT0 : Hid (Txt w wB g s (k + 1) mb none 0 0 [] (k + 1)) := ⟨RB, TB, BB, ⟨rfl, .inl ⟨rfl, rfl⟩⟩, rfl, ⟨Nat.le_refl _, Nat.zero_le _⟩, by
    rw [Nat.sub_self]
    cases Lx.text ((Lx.bs s).drop (k + 1)) <;> rfl⟩
  have HH := Lib.hid (And.intro htok (And.intro hgn hg))
  obtain ⟨b0, b1, b2, b3, b4⟩ := h.box
  clear htok hgn BB TB RB h hd hs hws hg
  go_enter Tryd.func48, Tryd.ntmps48
  go_wp2_with fail
  rw [show ({ data := #[] } : ByteArray) = ByteArray.empty from rfl, hwB]
  clear b0 b1 b2 b3 b4 hwB
  go_loopw [4] (fun v wr => ∃ (a : Option Addr) (n c : Nat) (acc : List Nat) (kk : Nat), v = .slice a n c ∧ Txt w wr g s (k + 1) mb a n c acc kk) (fun v wr => s.size - place wr g)
  case atStart => exact ⟨none, 0, 0, [], k + 1, rfl, HT0.out⟩
  case round =>
    obtain ⟨a, n, c, acc, kk, rfl, hm⟩ := hrel
    have hrd := hm.rd
    have hle := hrd.le
    have HM := Lib.hid hm
    clear hm HT0
    by_cases hk : kk = s.size
    · have hq : Lx.tok ((Lx.bs s).drop k) = none := by
        rw [HH.out.1, HM.out.eq, Lx.drop_ge (by omega), Lx.text_nil]; rfl
      have HQ := Lib.hid hq
      clear hq
      go_wp2_with fail
      refine wp_region_any (by kernel_rfl) ?_
      change wpAny _ _ _ _ _ _ _ (World.drew _)
      refine wpAny_take (i := 0) (v := ?_) rfl (by kernel_rfl) (by kernel_rfl) (by kernel_rfl) (fun _ _ _ h => h) (Or.inl ⟨by rfl, ?_⟩) ?_
      rotate_left
      · intro w; go_simp; try with_reducible rfl
      go_simp
      refine wpAny_ready (rs := [1]) (by kernel_rfl) (by simp) ?_
      refine AllReady.cons rfl (fun K hK => ?_) AllReady.nil
      go_simp
      refine (atEnd_is (hrd.still (drew_still wr)) (b := true) (decide_eq_true hk)).mono ?_; rintro e w1 ⟨rfl, t1, r1⟩
      refine hK _ _ ?_; clear hK K
      refine wpAny_take (i := 2) (v := ?_) rfl (by kernel_rfl) (by kernel_rfl) (by kernel_rfl) (fun _ _ _ h => h) (Or.inl ⟨by rfl, ?_⟩) ?_
      rotate_left
      · intro w; go_simp; try with_reducible rfl
      go_simp
      refine wpAny_take (i := 3) (v := ?_) rfl (by kernel_rfl) (by kernel_rfl) (by kernel_rfl) (fun _ _ _ h => h) (Or.inl ⟨by rfl, ?_⟩) ?_
      rotate_left
      · intro w; go_simp; try with_reducible rfl
      go_simp
      refine wpAny_take (i := 4) (v := undef) rfl (by kernel_rfl) (by kernel_rfl) (by kernel_rfl) (fun _ _ _ h => h) (Or.inr ⟨by rfl, rfl⟩) ?_
      go_simp
      refine wpAny_take (i := 5) (v := undef) rfl (by kernel_rfl) (by kernel_rfl) (by kernel_rfl) (fun _ _ _ h => h) (Or.inr ⟨by rfl, rfl⟩) ?_
      go_simp
      refine wpAny_take (i := 6) (v := undef) rfl (by kernel_rfl) (by kernel_rfl) (by kernel_rfl) (fun _ _ _ h => h) (Or.inr ⟨by rfl, rfl⟩) ?_
      go_simp
      refine wpAny_take (i := 7) (v := undef) rfl (by kernel_rfl) (by kernel_rfl) (by kernel_rfl) (fun _ _ _ h => h) (Or.inr ⟨by rfl, rfl⟩) ?_
      go_simp
      refine wpAny_take (i := 8) (v := undef) rfl (by kernel_rfl) (by kernel_rfl) (by kernel_rfl) (fun _ _ _ h => h) (Or.inr ⟨by rfl, rfl⟩) ?_
      go_simp
      refine wpAny_take (i := 9) (v := undef) rfl (by kernel_rfl) (by kernel_rfl) (by kernel_rfl) (fun _ _ _ h => h) (Or.inr ⟨by rfl, rfl⟩) ?_
      go_simp
      refine wpAny_take (i := 10) (v := undef) rfl (by kernel_rfl) (by kernel_rfl) (by kernel_rfl) (fun _ _ _ h => h) (Or.inr ⟨by rfl, rfl⟩) ?_
      go_simp
      refine wpAny_take (i := 11) (v := undef) rfl (by kernel_rfl) (by kernel_rfl) (by kernel_rfl) (fun _ _ _ h => h) (Or.inr ⟨by rfl, rfl⟩) ?_
      go_simp
      refine wpAny_take (i := 12) (v := undef) rfl (by kernel_rfl) (by kernel_rfl) (by kernel_rfl) (fun _ _ _ h => h) (Or.inr ⟨by rfl, rfl⟩) ?_
      go_simp
      refine wpAny_take (i := 13) (v := undef) rfl (by kernel_rfl) (by kernel_rfl) (by kernel_rfl) (fun _ _ _ h => h) (Or.inr ⟨by rfl, rfl⟩) ?_
      go_simp
      refine wpAny_take (i := 14) (v := ?_) rfl (by kernel_rfl) (by kernel_rfl) (by kernel_rfl) (fun _ _ _ h => h) (Or.inl ⟨by rfl, ?_⟩) ?_
      rotate_left
      · intro w; go_simp; try with_reducible rfl
      go_simp
      refine wpAny_done (by kernel_rfl) ?_ _
      have R1 := Lib.hid r1
      have T1 : Hid (Still wr w1) := (drew_still wr).trans t1
      clear t1 r1
      go_wp2_with fail
      refine (atEnd_is R1.out (b := true) (decide_eq_true hk)).mono ?_; rintro e w2 ⟨rfl, t2, r2⟩
      have B2 := Lib.hid ((T1.out.trans t2).blk HM.out.box)
      have T2 := Lib.hid (HM.out.turn.trans ((T1.out.trans t2).turn))
      obtain ⟨c0, c1, c2, c3, c4, c5, c6, c7, c8⟩ := tokBox B2.out
      clear t2 r2
      go_wp2_with fail
      refine bodyPost_ret (results_row_tmp rfl _ _ w.heap.size 31 #[.int .i64 0, .int .i64 0, .string ByteArray.empty, .int .i64 0] (0, 0) _ rfl (tokPut B2.out (.int .i64 0) (.int .i64 0) (.string ByteArray.empty) (.int .i64 0)) Tryd.underlying31 rfl tok_size) rfl ?_
      refine ⟨tokTurn T2.out (Nat.le_refl _) _ _ _ _, ?_⟩
      rw [HQ.out]
      rfl
    · have hlt : kk < s.size := by omega
      have HA := Lib.hid (fun W (t : Still wr W) => atEnd_any (hrd.still t))
      rw [decide_eq_false hk] at HA
      obtain ⟨b0, b1, b2, b3, b4⟩ := hrd.box
      by_cases h34 : s[kk].toNat = 34
      · have x34 : ((s[kk].toNat : Int) != 34) = false := by rw [h34]; rfl
        have hq : Lx.tok ((Lx.bs s).drop k) = some (⟨2, acc, 0⟩, kk - k + 1) := by
          rw [HH.out.1, HM.out.eq, Lx.drop_lt hlt, h34, Lx.text_end]
          have := HM.out.le.1
          simp only [Option.map_some, List.append_nil, Option.some.injEq, Prod.mk.injEq, true_and]
          omega
        have HQ := Lib.hid hq
        have HRD := Lib.hid hrd
        clear hq hk h34 hrd
        go_wp2_with fail
        go_quiet ((go_at_call 23; exact Calls.quiet_of (HA.out _ ((Still.refl _).drewN _))))
        have R1 := Lib.hid (HRD.out.still (drewN_still nq))
        clear b0 b1 b2 b3 b4
        go_wp2_with fail
        refine (atEnd_is R1.out (b := false) (decide_eq_false (by omega))).mono ?_; rintro e w2 ⟨rfl, t2, r2⟩
        have T1 : Hid (Still wr w2) := (drewN_still nq).trans t2
        have R2 := Lib.hid r2
        obtain ⟨b0, b1, b2, b3, b4⟩ := r2.box
        clear t2 r2
        have B2 : Hid (Blk w2 w.heap.size 31 #[.int .i64 0, .int .i64 0, .string ByteArray.empty, .int .i64 0]) := T1.out.blk HM.out.box
        have O2 : Hid (w2.ownsRow (w.heap.size + 1) 5 1 (.slice a n c) n (u8s acc)) := own_keep HM.out.own T1.out (fun _ _ e => e)
        obtain ⟨wC, hwC⟩ : ∃ wC, w2.setCell ⟨g, 1, none⟩ (.int .i64 ((kk : Int) + 1)) = wC := ⟨_, rfl⟩
        have RC : Hid (Rdr wC g s (kk + 1) mb) := hwC ▸ R2.out.set (k' := kk + 1) hlt
        have BC : Hid (Blk wC w.heap.size 31 #[.int .i64 0, .int .i64 0, .string ByteArray.empty, .int .i64 0]) := hwC ▸ B2.out.far (p := ⟨g, 1, none⟩) (fun e => HH.out.2.1 e.symm) _
        have TC : Hid (At g w2 wC) := hwC ▸ At.set (Turn.refl _ w2) 1 _
        have OC : Hid (wC.ownsRow (w.heap.size + 1) 5 1 (.slice a n c) n (u8s acc)) := own_keep O2.out TC.out (fun j hj e => by
          have h1 := (HM.out.own.lt j hj).1
          have h2 := HH.out.2.2
          omega)
        have hcv := own_string OC.out
        obtain ⟨c0, c1, c2, c3, c4, c5, c6, c7, c8⟩ := tokBox BC.out
        go_wp2_with fail
        refine bodyPost_ret (results_row_tmp rfl _ _ w.heap.size 31 #[.int .i64 2, .int .i64 0, .string (Lx.str acc), .int .i64 0] (0, 0) _ rfl (tokPut BC.out (.int .i64 2) (.int .i64 0) (.string (Lx.str acc)) (.int .i64 0)) Tryd.underlying31 rfl tok_size) rfl ?_
        refine ⟨tokTurn ((HM.out.turn.trans T1.out.turn).trans TC.out) (Nat.le_refl _) _ _ _ _, ?_⟩
        rw [HQ.out]
        have hkk : k + (kk - k + 1) = kk + 1 := by have := HM.out.le.1; omega
        exact ⟨rfl, by rw [hkk]; exact tokRdr RC.out HH.out.2.1 _ _ _ _⟩
      · have x34 : ((s[kk].toNat : Int) != 34) = true := by
          have := (int_beq s[kk].toNat 34).trans (beq_eq_false_iff_ne.2 h34)
          exact bne_iff_ne.2 (fun e => by rw [beq_eq_false_iff_ne] at this; exact this e)
        have HRD := Lib.hid hrd
        have HN := Lib.hid h34
        clear hk h34 hrd
        go_wp2_with fail
        go_quiet ((go_at_call 23; exact Calls.quiet_of (HA.out _ ((Still.refl _).drewN _))))
        have R1 := Lib.hid (HRD.out.still (drewN_still nq))
        have HME := Lib.hid (meant_any R1.out hlt)
        clear b0 b1 b2 b3 b4
        go_wp2_with fail
        refine HME.out.mono ?_; rintro e w2 ⟨t2, hres⟩
        have T2 : Hid (At g wr w2) := (drewN_still nq).turn.trans t2
        have B2 : Hid (Blk w2 w.heap.size 31 #[.int .i64 0, .int .i64 0, .string ByteArray.empty, .int .i64 0]) := HM.out.box.keep T2.out (fun e => HH.out.2.1 e.symm)
        clear t2 HME
        cases hu : Lx.unit ((Lx.bs s).drop kk) with
        | none =>
          rw [hu] at hres
          obtain ⟨z, rfl, k2, r2⟩ := hres
          have hq : Lx.tok ((Lx.bs s).drop k) = none := by
            rw [HH.out.1, HM.out.eq]
            rw [Lx.drop_lt hlt] at hu ⊢
            rw [Lx.text_step HN.out, hu]; rfl
          have HQ := Lib.hid hq
          obtain ⟨c0, c1, c2, c3, c4, c5, c6, c7, c8⟩ := tokBox B2.out
          clear hq hu
          go_wp2_with fail
          refine bodyPost_ret (results_row_tmp rfl _ _ w.heap.size 31 #[.int .i64 0, .int .i64 0, .string ByteArray.empty, .int .i64 0] (0, 0) _ rfl (tokPut B2.out (.int .i64 0) (.int .i64 0) (.string ByteArray.empty) (.int .i64 0)) Tryd.underlying31 rfl tok_size) rfl ?_
          refine ⟨tokTurn (HM.out.turn.trans T2.out) (Nat.le_refl _) _ _ _ _, ?_⟩
          rw [HQ.out]
          rfl
        | some x =>
          obtain ⟨v, u⟩ := x
          rw [hu] at hres
          obtain ⟨rfl, r2⟩ := hres
          have hup := Lx.unit_pos hu
          rw [List.length_drop, Lx.bs_len] at hup
          have hv := unit_small (fun c hc => Lx.byte_lt s c (List.mem_of_mem_drop hc)) hu
          have heq := text_step' HM.out.le.1 hlt HN.out hu HM.out.eq
          have hnk := HM.out.le.2
          have O2 : Hid (w2.ownsRow (w.heap.size + 1) 5 1 (.slice a n c) n (u8s acc)) := own_keep HM.out.own T2.out (fun j hj e => by
            have h1 := (HM.out.own.lt j hj).1
            have h2 := HH.out.2.2
            omega)
          have hb2 : w.heap.size + 1 ≤ w2.heap.size := B2.out.lt
          have HX := Lib.hid (And.intro heq (And.intro hup r2))
          clear hu heq r2
          go_wp2_with (at_builtin; refine wpList_append_form rfl (.tmp 37) (.tmp 39) 40 rfl (w.heap.size + 1) 5 1 1 (.int .u8 0) Tryd.underlying40 infoU8 rfl (by decide) a n c _ rfl (own_keep O2.out ((Still.refl w2).alloc (.cells #[.int .u8 (v : Int)] 5)) (fun _ _ e => e)) ⟨w2.heap.size, 0, none⟩ 1 1 [.int .u8 (v : Int)] rfl rfl (cell_one_new _ _ _) (by simp [Value.oneCell']) (by decide) (by unfold maxLen; omega) (by omega) (by simp; omega) ?_; intro g2 c2 w3 ho3 t3 hg3)
          have T3 : Hid (Turn (fun j => (Value.slice a n c).ownBlock = some j) w2 w3) := ((Still.refl w2).alloc _).turn.trans t3.out
          have R3 : Hid (Rdr w3 g s (kk + u) mb) := ⟨HX.out.2.2.blk.keep T3.out (fun e => by
            have h1 := (O2.out.lt g e).1
            have h2 := HH.out.2.2
            omega), HX.out.2.2.le, hf⟩
          have B3 : Hid (Blk w3 w.heap.size 31 #[.int .i64 0, .int .i64 0, .string ByteArray.empty, .int .i64 0]) := B2.out.keep T3.out (fun e => by
            have h1 := (O2.out.lt _ e).1
            omega)
          have T4 : Hid (At g w w3) := by
            have t := HM.out.turn.trans T2.out
            exact ⟨T3.out.os.trans t.os, T3.out.tape.trans t.tape, T3.out.output.trans t.output, Nat.le_trans t.size T3.out.size, fun j hj hs => (T3.out.block j (Nat.lt_of_lt_of_le hj t.size) (fun e => by have := (O2.out.lt j e).1; omega)).trans (t.block j hj hs)⟩
          have hpl : place w3 g = kk + u := R3.out.place
          have hpl0 : place wr g = kk := HRD.out.place
          have hux := HX.out.2.1
          have hle1 := HM.out.le
          refine ⟨⟨_, _, _, acc ++ [v], kk + u, rfl, R3.out, T4.out, B3.out, ?_, by simp [HM.out.len], ⟨by omega, by omega⟩, HX.out.1⟩, by omega⟩
          have := ho3.out
          simpa [u8s] using this
end Go.Proofs.YtpccfimjkffkfaaDoor
