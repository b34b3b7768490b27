/- Lemmas, put together: Close Reads Near. -/
import Derived.Test.YthfkgkddklnnhaaK09
import Derived.Deep.MidRow
import Derived.Laws.ResultCell
import Derived.Shelf.Abstract
/- The contract of Close. -/
namespace Go.Proofs.Ythfkgkddklnnhaa
set_option linter.unusedVariables false
open Go.ChangeShapes Go.WideShapes Go.ChangeAt Go.RowKit
open M (W)

/-- A set of places, as its cells. -/
def M.cellsOf (x : Nat → Nat) : List Value := (List.range 1024).map fun i => .int .u64 (x i : Nat)
theorem cellsOf_len (x : Nat → Nat) : (M.cellsOf x).length = 1024 := by unfold M.cellsOf; simp
theorem cellsOf_at (x : Nat → Nat) (i : Nat) (hi : i < 1024) : (M.cellsOf x)[i]? = some (.int .u64 (x i : Nat)) := by
  unfold M.cellsOf; rw [List.getElem?_map, List.getElem?_range hi]; rfl
def zP : Array Value := (M.cellsOf fun _ => 0).toArray
theorem zP_size : zP.size = 1024 := by unfold zP; rw [List.size_toArray, cellsOf_len]
theorem zeroPlaces : (Try.prog.info? 76).map (fun i => (i.zero, i.size)) = some (some (.agg zP), 1024) := by kernel_rfl
theorem infoPl : (Try.prog.info? 76).map (·.size) = some 1024 := by kernel_rfl
theorem zP_row (W : World) : (W.alloc (.cells zP 76)).rowIs W.heap.size 76 1024 (fun _ => .int .u64 (0 : Nat)) := by
  refine ⟨_, heap_alloc_new W _, zP_size, fun i hi => ?_⟩
  unfold zP
  have := cellsOf_at (fun _ => 0) i hi
  simpa using this
theorem set_range {W : World} {g o : Nat} {x : Nat → Nat} (h : SetAt W g o x) : W.rangeAt g o (M.cellsOf x) := fun j v hj => by
  have hl : j < 1024 := by
    have := (List.getElem?_eq_some_iff.1 hj).1
    rw [cellsOf_len] at this; exact this
  rw [cellsOf_at x j hl] at hj
  injection hj with hj
  rw [← hj]; exact (h j hl).1
theorem rowIs_there {W : World} {g N o n : Nat} {t : TypeId} {f : Nat → Value} (h : W.rowIs g t N f) (hn : o + n ≤ N) : W.there g o n := fun j hj => by
  refine ⟨?_, h.frozen _⟩
  rw [h.cell (i := o + j) (by omega)]; rfl
theorem rowIs_setList {g : Nat} {t : TypeId} {N : Nat} : ∀ (vs : List Value) (o : Nat) {w : World} {f : Nat → Value}, w.rowIs g t N f → (w.setCells g o vs).rowIs g t N (fun i => if o ≤ i ∧ i < o + vs.length then vs.getD (i - o) undef else f i)
  | [], o, w, f, h => h.congr fun i _ => by rw [if_neg (by simp)]
  | v :: vs, o, w, f, h => by
    rw [World.setCells]
    exact (rowIs_setList vs (o + 1) (h.set o v)).congr fun i _ => by
      simp only [List.length_cons]
      by_cases e : i = o
      · subst e
        rw [if_neg (by omega), if_pos rfl, if_pos (by omega), Nat.sub_self]; rfl
      · by_cases e2 : o + 1 ≤ i ∧ i < o + 1 + vs.length
        · rw [if_pos e2, if_pos (by omega), show i - o = (i - (o + 1)) + 1 by omega, List.getD_cons_succ]
        · rw [if_neg e2, if_neg e, if_neg (by omega)]
theorem oneP : ∀ x : Nat → Nat, ∀ v ∈ M.cellsOf x, v.oneCell' = true := by
  intro x v hv
  unfold M.cellsOf at hv
  obtain ⟨i, _, rfl⟩ := List.mem_map.1 hv
  rfl
def LaidJ (w0 w2 : World) (s : St) (hb bx : Nat) (l : List Nat) (W : World) : Prop := LaidI w0 s hb bx l W ∧ Turn (fun k => k = hb) w2 W
set_option maxRecDepth 100000 in
set_option maxHeartbeats 8000000 in
theorem laid_any (s : St) (top : Nat) (w : World) (h : HpIs w s) (htop : top ≤ s.n) :
    Calls Try.prog 36 #[s.ptr, .int .i64 top] w fun e w' => ∃ (l : List Nat) (b : Bool), e = .returned (.tuple #[.agg (M.cellsOf (M.putAll l)).toArray, .bool b]) ∧ Still w w' ∧ ((b = true ∧ ChainTo s top s.headB 0 top l) ∨ (b = false ∧ ∀ hs, ¬ ChainTo s top s.headB 0 top hs)) := by
  have hg := h.blk.lt
  have hzz := (zero_of_info zeroPlaces).1
  have hzs := zP_size
  have hze : ¬ zP = #[] := fun e => by rw [e] at hzs; simp at hzs
  have HH := Lib.hid h
  clear h
  go_enter Try.func36, Try.ntmps36
  go_wp2_with fail
  obtain ⟨bx, hbx⟩ : ∃ bx, w.heap.size = bx := ⟨_, rfl⟩
  have hI0 : LaidJ w (((w.alloc (.cells #[s.ptr] 27)).alloc (.cells zP 76)).alloc (.cells zP 76)) s (w.heap.size + 1 + 1) w.heap.size [] (((w.alloc (.cells #[s.ptr] 27)).alloc (.cells zP 76)).alloc (.cells zP 76)) := by
    have hr := zP_row ((w.alloc (.cells #[s.ptr] 27)).alloc (.cells zP 76))
    have e : ((w.alloc (.cells #[s.ptr] 27)).alloc (.cells zP 76)).heap.size = w.heap.size + 1 + 1 := by simp
    rw [e] at hr
    exact ⟨⟨((HH.out.alloc _).alloc _).alloc _, hr, ((Blk.new w _ _).alloc _).alloc _, by omega, Nat.le_refl _, (((Still.refl w).alloc _).alloc _).alloc _⟩, Turn.refl _ _⟩
  have hrb : (((w.alloc (.cells #[s.ptr] 27)).alloc (.cells zP 76)).alloc (.cells zP 76)).rowIs (w.heap.size + 1) 76 1024 (fun _ => .int .u64 (0 : Nat)) := by
    have hr := (zP_row (w.alloc (.cells #[s.ptr] 27))).alloc (.cells zP 76)
    have e : (w.alloc (.cells #[s.ptr] 27)).heap.size = w.heap.size + 1 := by simp
    rw [e] at hr
    exact hr
  have hsz2 : (((w.alloc (.cells #[s.ptr] 27)).alloc (.cells zP 76)).alloc (.cells zP 76)).heap.size = w.heap.size + 1 + 1 + 1 := by simp
  generalize (((w.alloc (.cells #[s.ptr] 27)).alloc (.cells zP 76)).alloc (.cells zP 76)) = W2 at *
  have hbx0 := hbx
  rw [hbx] at hI0 hrb hsz2 ⊢
  have HWK := walk_any (good := s.headB) s top 68 (enters_of Try.func68 (by kernel_rfl) rfl) (.pointer (some ⟨bx + 1 + 1, 0, none⟩)) (.pointer (some ⟨bx, 0, none⟩)) (fun k => k = bx + 1 + 1) (LaidJ w W2 s (bx + 1 + 1) bx) W2 (fun l W hI => hI.1.hp) (fun l W W' hI t => ⟨hI.1.stay t, hI.2.trans (Still.turn t)⟩) (fun l W hI => hI.2.size) (fun k hk => by omega) hI0 htop
    (fun l p W hI hch hlt hr => (laid1_any w s (bx + 1 + 1) bx p l top W hI.1 hr hlt htop).mono fun e w' ⟨he, h1, h2⟩ => ⟨he, ⟨h1, hI.2.trans h2⟩, h2⟩)
  have HRB := Lib.hid hrb
  have HBW : Hid (w.heap.size = bx) := hbx0
  clear hzz hzs hze hI0 hrb hsz2 hbx hbx0 hg
  refine HWK.mono ?_; rintro e w3 ⟨l, ⟨hI, hT⟩, hor⟩
  obtain ⟨b, rfl, hb⟩ : ∃ b : Bool, e = .returned (.bool b) ∧ ((b = true ∧ ChainTo s top s.headB 0 top l) ∨ (b = false ∧ ∀ hs, ¬ ChainTo s top s.headB 0 top hs)) := by
    rcases hor with ⟨h1, h2⟩ | ⟨h1, h2⟩
    · exact ⟨true, h1, .inl ⟨rfl, h2⟩⟩
    · exact ⟨false, h1, .inr ⟨rfl, h2⟩⟩
  have hr3 := HRB.out.of_block (hT.block _ HRB.out.lt (by omega))
  have hset : w3.rangeAt (bx + 1 + 1) 0 (M.cellsOf (M.putAll l)) := set_range (fun i hi => ⟨by rw [Nat.zero_add]; exact hI.set.cell hi, putAll_lt l i⟩)
  have HI := Lib.hid hI
  have HSET := Lib.hid hset
  have HR3 := Lib.hid hr3
  have HOR := Lib.hid hb
  clear hI hT hor hb hr3 hset HWK HRB
  generalize hx : M.putAll l = x at *
  have HXX := Lib.hid hx
  clear hx
  go_wp2_with (first
    | (refine wpList_load_mid rfl 76 (.tmp 6) rfl (bx + 1 + 1) 0 rfl (M.cellsOf x) _ HSET.out Try.underlying76 rfl (by rw [cellsOf_len]; exact infoPl) ?_)
    | (refine wpList_store_mid rfl 76 (.tmp 4) (.tmp 12) rfl (bx + 1) 0 (M.cellsOf x).toArray rfl rfl (by rw [List.size_toArray, cellsOf_len]; exact rowIs_there HR3.out (by omega)) (by rw [List.size_toArray, cellsOf_len]; exact infoPl) (all_oneCell_toArray (oneP x)) ?_))
  have hld := run_loadVar_mid (P := Try.prog) (w3.setCells (bx + 1) 0 (M.cellsOf x)) (bx + 1) 0 76 (M.cellsOf x) _ (World.rangeAt_setCells_same w3 (bx + 1) 0 (M.cellsOf x) (by rw [cellsOf_len]; exact rowIs_there HR3.out (by omega))) Try.underlying76 rfl (by rw [cellsOf_len]; exact infoPl)
  refine bodyPost_ret (v := .tuple #[.agg (M.cellsOf x).toArray, .bool b]) ?_ rfl ⟨l, b, by rw [HXX.out], ?_, HOR.out⟩
  · rw [results_cell_tmp rfl]
    simp [asAddr, Result.andThen, hld]
  · exact Still.own HI.out.still ((turn_setCells (S := fun k => k = bx + 1) rfl _ _ (Turn.refl _ w3)).mono fun k _ e => by rw [HBW.out]; omega)

def FilledJ (w0 w2 : World) (s : St) (x : Nat → Nat) (hb bx by_ : Nat) (_ : List Nat) (W : World) : Prop := FilledI w0 s x hb bx by_ W ∧ Still w2 W
set_option maxRecDepth 100000 in
set_option maxHeartbeats 8000000 in
theorem filled_any (s : St) (x : Nat → Nat) (hb top : Nat) (w : World) (h : HpIs w s) (hx : SetAt w hb 0 x) (hlt : hb < w.heap.size) (htop : top ≤ s.n) :
    Calls Try.prog 37 #[s.ptr, .int .i64 top, .pointer (some ⟨hb, 0, none⟩)] w fun e w' => ∃ b : Bool, e = .returned (.bool b) ∧ Still w w' ∧ ((b = true ∧ ∃ l, ChainTo s top (s.fillB x) 0 top l) ∨ (b = false ∧ ∀ hs, ¬ ChainTo s top (s.fillB x) 0 top hs)) := by
  have hg := h.blk.lt
  have HH := Lib.hid h
  have HX := Lib.hid hx
  clear h hx
  go_enter Try.func37, Try.ntmps37
  go_wp2_with fail
  have S2 : Still w ((w.alloc (.cells #[s.ptr] 27)).alloc (.cells #[.pointer (some ⟨hb, 0, none⟩)] 85)) := ((Still.refl w).alloc _).alloc _
  have hI0 : FilledJ w ((w.alloc (.cells #[s.ptr] 27)).alloc (.cells #[.pointer (some ⟨hb, 0, none⟩)] 85)) s x hb w.heap.size (w.heap.size + 1) [] ((w.alloc (.cells #[s.ptr] 27)).alloc (.cells #[.pointer (some ⟨hb, 0, none⟩)] 85)) := by
    have hB := Blk.new (w.alloc (.cells #[s.ptr] 27)) 85 #[.pointer (some ⟨hb, 0, none⟩)]
    have e : (w.alloc (.cells #[s.ptr] 27)).heap.size = w.heap.size + 1 := by simp
    rw [e] at hB
    exact ⟨⟨HH.out.still S2, fun i hi => by rw [S2.cell (p := ⟨hb, _, none⟩) hlt]; exact HX.out i hi, Nat.lt_of_lt_of_le hlt S2.size, (Blk.new w _ _).alloc _, hB, S2⟩, Still.refl _⟩
  generalize ((w.alloc (.cells #[s.ptr] 27)).alloc (.cells #[.pointer (some ⟨hb, 0, none⟩)] 85)) = W2 at *
  have HWK := walk_any (good := s.fillB x) s top 69 (enters_of Try.func69 (by kernel_rfl) rfl) (.pointer (some ⟨w.heap.size, 0, none⟩)) (.pointer (some ⟨w.heap.size + 1, 0, none⟩)) (fun _ => False) (FilledJ w W2 s x hb w.heap.size (w.heap.size + 1)) W2 (fun l W hI => hI.1.hp) (fun l W W' hI t => ⟨hI.1.stay t, hI.2.trans t⟩) (fun l W hI => hI.2.size) (fun k hk => hk.elim) hI0 htop
    (fun l p W hI hch hlt hr => (filled1_any w s x hb w.heap.size (w.heap.size + 1) p top W hI.1 hr hlt htop).mono fun e w' ⟨he, h1, h2⟩ => ⟨he, ⟨h1, hI.2.trans h2⟩, h2⟩)
  clear hI0 hg S2
  refine HWK.mono ?_; rintro e w3 ⟨l, ⟨hI, hT⟩, hor⟩
  obtain ⟨b, rfl, hb⟩ : ∃ b : Bool, e = .returned (.bool b) ∧ ((b = true ∧ ∃ l, ChainTo s top (s.fillB x) 0 top l) ∨ (b = false ∧ ∀ hs, ¬ ChainTo s top (s.fillB x) 0 top hs)) := by
    rcases hor with ⟨h1, h2⟩ | ⟨h1, h2⟩
    · exact ⟨true, h1, .inl ⟨rfl, l, h2⟩⟩
    · exact ⟨false, h1, .inr ⟨rfl, h2⟩⟩
  have HI := Lib.hid hI
  have HOR := Lib.hid hb
  clear hI hT hor hb HWK
  go_wp2_with fail
  go_ret
  exact ⟨b, rfl, HI.out.still, HOR.out⟩
theorem wpList_clear_any {P : Program} {w : World} {ops : Array Oper} {rest : List Oper} {o : Oper} {a : Act} {Q : Exit → Act → World → Prop} (hgd : o.guard = none) (x : Operand) (t : TypeId)
    (ho : o.op = .call { callee := .builtin .clear, args := #[x], argTypes := #[t] }) (e : TypeId) (z : Value) (ht : P.underlying t = some (.slice e)) (hv : ∀ w, (zeroValue e).run P w = .ok z w) (hz : z.cells = #[z]) (h1 : z.oneCell' = true)
    (base : Option Addr) (g off n c : Nat) (hx : a.eval x = .slice base n c) (hb : base = some ⟨g, off, none⟩ ∨ n = 0) (t' : TypeId) (N : Nat) (f : Nat → Value) (hr : w.rowIs g t' N f) (hfit : off + n ≤ N)
    (h : ∀ w', Hid (w'.rowIs g t' N (fun i => if off ≤ i ∧ i < off + n then z else f i)) → Hid (Turn (fun k => k = g) w w') → wpList P ops Q rest (a.put o.dst (.tuple #[])) w') : wpList P ops Q (o :: rest) a w := by
  by_cases hn : n = 0
  · subst hn
    refine wpList_plain hgd fun K hK => ?_
    have hrun : (Builtin.clear_ #[t] o.type #[.slice base 0 c]).run P w = .ok (.tuple #[]) w := by
      cases base <;> simp [Builtin.clear_, run_underlying ht]
    unfold Oper.wp
    simp [execOp, ho, resolve, invoke, builtin, hx, hrun, Result.andThen]
    exact hK _ _ (h _ (hr.congr fun i _ => by rw [if_neg (by omega)]) (Turn.refl _ w))
  · rcases hb with rfl | hb
    · exact wpList_clear_row hgd x t ho e z ht hv hz h1 g off n c hx t' N f hr hfit h
    · exact absurd hb hn
/-- The heap that Close leaves. -/
def St.closed (s : St) (top : Nat) (l : List Nat) : St := { s with top := top, hx := M.putAll l, ws := fun i => if i < top then s.ws i else 0 }
def St.closes (s : St) (top : Nat) (l : List Nat) : Prop := ChainTo s top s.headB 0 top l ∧ ChainTo s top (s.fillB (M.putAll l)) 0 top l
theorem closed_is {s : St} {top : Nat} {l : List Nat} {w4 W6 W7 : World} (h : HpIs w4 s) (htop : top ≤ s.n)
    (hb : W6.rowIs s.g 78 1027 (fun j => if j = 1 then .int .i64 top else if 2 ≤ j ∧ j < 2 + (M.cellsOf (M.putAll l)).length then (M.cellsOf (M.putAll l)).getD (j - 2) undef else s.cell j))
    (hl : W6.rowIs s.gl 67 (s.m * 2) s.lay) (t : Turn (fun k => k = s.gw) W6 W7)
    (hr : W7.rowIs s.gw 33 s.n (fun i => if top ≤ i ∧ i < top + (s.n - top) then .int .u64 0 else .int .u64 (s.ws i))) : HpIs W7 (s.closed top l) := by
  have hb7 := hb.of_block (t.block _ hb.lt (fun e => h.ne_gw e))
  have hl7 := hl.of_block (t.block _ hl.lt (fun e => h.ne_wl e.symm))
  refine ⟨hb7.congr fun i hi => ?_, hr.congr fun i hi => ?_, hl7, h.n_le, h.m_le, htop, fun i => ?_, putAll_lt l, h.kinds, h.lens⟩
  · rw [cellsOf_len]
    by_cases e1 : i = 1
    · subst e1; rfl
    · rw [if_neg e1]
      by_cases e0 : i = 0
      · subst e0; rfl
      · by_cases e3 : i = 1026
        · subst e3; rfl
        · rw [if_pos (by omega), List.getD_eq_getElem?_getD, cellsOf_at _ _ (by omega)]
          unfold St.cell
          rw [if_neg e0, if_neg e1, if_neg e3]; rfl
  · show _ = Value.int .u64 ((if i < top then s.ws i else 0 : Nat) : Int)
    by_cases e : i < top
    · rw [if_pos e, if_neg (by omega)]
    · rw [if_neg e, if_pos (by omega)]; rfl
  · show (if i < top then s.ws i else 0) < _
    split
    · exact h.ws_lt i
    · decide
theorem close_out (s : St) (top : Int) (w : World) (h : HpIs w s) (ht : top < 0 ∨ (s.n : Int) < top) : Calls Try.prog 11 #[s.ptr, .int .i64 top] w fun e w' => e = .returned (.int .i64 1) ∧ Still w w' := by
  have HS := size_any s w h
  have hn := h.n_le
  clear h
  by_cases h0 : top < 0
  · clear ht
    go_enter Try.func11, Try.ntmps11
    go_wp2_with fail
    go_ret
    exact ⟨rfl, Still.refl w⟩
  · have h1 : (s.n : Int) < top := by omega
    clear ht
    go_enter Try.func11, Try.ntmps11
    go_wp2_with fail
    refine HS.mono ?_; rintro e w ⟨rfl, rfl⟩
    go_wp2_with fail
    go_ret
    exact ⟨rfl, Still.refl w⟩
set_option maxRecDepth 100000 in
set_option maxHeartbeats 8000000 in
theorem close_in (s : St) (top : Nat) (w : World) (h : HpIs w s) (htop : top ≤ s.n) :
    Calls Try.prog 11 #[s.ptr, .int .i64 top] w fun e w' => (∃ l, s.closes top l ∧ e = .returned (.int .i64 0) ∧ HpIs w' (s.closed top l) ∧ Turn (fun k => k = s.g ∨ k = s.gw) w w') ∨ ((∀ l, ¬ s.closes top l) ∧ e = .returned (.int .i64 1) ∧ Still w w') := by
  have hn := h.n_le
  have HS := size_any s w h
  have HLD := laid_any s top w h htop
  have HH := Lib.hid h
  have hnt : ¬ ((s.n : Int) < (top : Int)) := by omega
  have hzz := (zero_of_info zeroPlaces).1
  have hzs := zP_size
  have hze : ¬ zP = #[] := fun e => by rw [e] at hzs; simp at hzs
  clear h
  go_enter Try.func11, Try.ntmps11
  go_wp2_with fail
  refine HS.mono ?_; rintro e w ⟨rfl, rfl⟩
  go_wp2_with fail
  refine HLD.mono ?_; rintro e w1 ⟨l, b, rfl, t1, hor⟩
  have HT1 := Lib.hid t1
  have HOR := Lib.hid hor
  clear t1 hor HLD HS
  obtain ⟨x, hx⟩ : ∃ x, M.putAll l = x := ⟨_, rfl⟩
  rw [hx]
  have HXX := Lib.hid hx
  clear hx
  have hlen := cellsOf_len x
  have h0 : ¬ ((top : Int) < 0) := by omega
  have hth := rowIs_there (zP_row w1) (o := 0) (n := 1024) (by omega)
  have hsc := run_storeCells_cells (P := Try.prog) w1.heap.size 0 (M.cellsOf x) 0 (w1.alloc (.cells zP 76)) (fun j hj => by rw [hlen] at hj; have h1 := (hth j hj).1; simp only [Nat.zero_add] at h1 ⊢; exact h1) (fun j hj => by rw [hlen] at hj; have h1 := (hth j hj).2; simp only [Nat.zero_add] at h1 ⊢; exact h1) (oneP x)
  rw [Nat.add_zero] at hsc
  clear hth
  have hset := (rowIs_setList (M.cellsOf x) 0 (zP_row w1))
  have hT2 : Still w1 ((w1.alloc (.cells zP 76)).setCells w1.heap.size 0 (M.cellsOf x)) :=
    Still.own ((Still.refl w1).alloc (.cells zP 76)) ((turn_setCells (S := fun k => k = w1.heap.size) rfl _ _ (Turn.refl _ _)).mono fun k _ e => by omega)
  have HSET : Hid (SetAt ((w1.alloc (.cells zP 76)).setCells w1.heap.size 0 (M.cellsOf x)) w1.heap.size 0 x) := fun i hi => by
    refine ⟨?_, by rw [← HXX.out]; exact putAll_lt l i⟩
    rw [Nat.zero_add, hset.cell hi, if_pos (by rw [hlen]; omega), Nat.sub_zero, List.getD_eq_getElem?_getD, cellsOf_at x i hi]; rfl
  have hlt2 := hset.lt
  have HT2 := Lib.hid hT2
  clear hset hT2
  cases b with
  | false =>
    go_wp2_with fail
    go_ret
    refine .inr ⟨fun l' hc => ?_, rfl, HT1.out.trans HT2.out⟩
    rcases HOR.out with ⟨h, _⟩ | ⟨_, h⟩
    · simp at h
    · exact h _ hc.1
  | true =>
    have hch : ChainTo s top s.headB 0 top l := by
      rcases HOR.out with ⟨_, h⟩ | ⟨h, _⟩
      · exact h
      · simp at h
    have HCH := Lib.hid hch
    clear hch HOR
    go_wp2_with fail
    generalize ((w1.alloc (.cells zP 76)).setCells w1.heap.size 0 (M.cellsOf x)) = W2 at *
    generalize w1.heap.size = hb at *
    have HPW := Lib.hid (HH.out.still (HT1.out.trans HT2.out))
    refine (filled_any s x hb top W2 HPW.out HSET.out hlt2 htop).mono ?_; rintro e w4 ⟨b, rfl, t4, hor⟩
    have HT4 := Lib.hid (HT1.out.trans (HT2.out.trans t4))
    have HS4 : Hid (SetAt w4 hb 0 x) := fun i hi => by rw [t4.cell (p := ⟨hb, _, none⟩) hlt2]; exact HSET.out i hi
    have hlt4 : hb < w4.heap.size := Nat.lt_of_lt_of_le hlt2 t4.size
    have HOR := Lib.hid hor
    clear t4 hor HSET HT1 HT2 HPW hsc hzz hzs hze
    cases b with
    | false =>
      go_wp2_with fail
      go_ret
      refine .inr ⟨fun l' hc => ?_, rfl, HT4.out⟩
      have e := hc.1.same HCH.out
      subst e
      rcases HOR.out with ⟨h, _⟩ | ⟨_, h⟩
      · simp at h
      · rw [← HXX.out] at h; exact h _ hc.2
    | true =>
      have hch2 : ∃ l, ChainTo s top (s.fillB x) 0 top l := by
        rcases HOR.out with ⟨_, h⟩ | ⟨h, _⟩
        · exact h
        · simp at h
      have HC3 : Hid (ChainTo s top (s.fillB x) 0 top l) := by
        obtain ⟨l2, h2⟩ := hch2
        rw [HCH.out.same h2]; exact h2
      have hp4 := HH.out.still HT4.out
      have HP4 := Lib.hid hp4
      have hlc := run_loadCells_list (P := Try.prog) w4 ⟨hb, 0, none⟩ (M.cellsOf x) (fun j v hv => by rw [Addr.add_mid]; exact set_range HS4.out j v hv)
      rw [hlen] at hlc
      unfold loadCells at hlc
      have hth := rowIs_there hp4.blk (o := 2) (n := 1024) (by omega)
      have hsc := run_storeCells_cells (P := Try.prog) s.g 2 (M.cellsOf x) 0 w4 (fun j hj => by rw [hlen] at hj; exact (hth j hj).1) (fun j hj => by rw [hlen] at hj; exact (hth j hj).2) (oneP x)
      rw [Nat.add_zero] at hsc
      have hbk := rowIs_setList (M.cellsOf x) 2 hp4.blk
      have HBK := Lib.hid hbk
      have c0 : (w4.setCells s.g 2 (M.cellsOf x)).cell? ⟨s.g, 0, none⟩ = some (.slice (some ⟨s.gw, 0, none⟩) s.n s.n) := by
        rw [hbk.cell (i := 0) (by omega)]; rfl
      have c1 : (w4.setCells s.g 2 (M.cellsOf x)).cell? ⟨s.g, 1, none⟩ = some (.int .i64 s.top) := by
        rw [hbk.cell (i := 1) (by omega)]; rfl
      have f1 : (w4.setCells s.g 2 (M.cellsOf x)).frozen? ⟨s.g, 1, none⟩ = false := hbk.frozen _
      have hgl := hbk.lt
      clear hch2 HOR hth hp4 hbk
      have hbase : (if s.n = top then some (⟨s.gw, 0, none⟩ : Addr) else some ⟨s.gw, top, none⟩) = some ⟨s.gw, top, none⟩ ∨ s.n - top = 0 := by
        by_cases e : s.n = top
        · right; omega
        · left; rw [if_neg e]
      have HBS := Lib.hid hbase
      have hT5 : Turn (fun k => k = s.g) w4 ((w4.setCells s.g 2 (M.cellsOf x)).setCell ⟨s.g, 1, none⟩ (.int .i64 top)) := (turn_setCells (S := fun k => k = s.g) rfl _ _ (Turn.refl _ w4)).setCell (p := ⟨s.g, 1, none⟩) (fun _ => rfl) _
      have hr5 := HP4.out.words.of_block (hT5.block _ HP4.out.words.lt (fun e => HP4.out.ne_gw e.symm))
      have hb5 := HBK.out.set 1 (.int .i64 top)
      have hl5 := HP4.out.lays.of_block (hT5.block _ HP4.out.lays.lt (fun e => HP4.out.ne_gl e.symm))
      have HT5 := Lib.hid hT5
      have HR5 := Lib.hid hr5
      have HB5 := Lib.hid hb5
      have HL5 := Lib.hid hl5
      clear hT5 hr5 hb5 hl5 hbase
      go_wp2_with fail
      refine wp_load_mid 76 (.tmp 5) rfl hb 0 rfl (M.cellsOf x) _ (set_range HS4.out) Try.underlying76 rfl (by rw [cellsOf_len]; exact infoPl) ?_
      clear hsc hlc hlen
      have hth := rowIs_there HP4.out.blk (o := 2) (n := 1024) (by omega)
      have HTH := Lib.hid hth
      clear hth
      go_wp2_with (first
        | (refine wpList_store_mid rfl 76 (.tmp 38) (.tmp 35) rfl s.g 2 (M.cellsOf x).toArray rfl rfl (by rw [List.size_toArray, cellsOf_len]; exact HTH.out) (by rw [List.size_toArray, cellsOf_len]; exact infoPl) (all_oneCell_toArray (oneP x)) ?_; change wpList _ _ _ _ _ (w4.setCells s.g 2 (M.cellsOf x)); generalize w4.setCells s.g 2 (M.cellsOf x) = W5 at *))
      · rename_i hte
        have hrun := run_clear_row (P := Try.prog) (W5.setCell ⟨s.g, 1, none⟩ (.int .i64 top)) 24 33 0 (.int .u64 0) Try.underlying24 zeroU64 rfl rfl s.gw 0 0 0 _ _ _ HR5.out (by omega)
        simp only [hrun, Result.andThen, List.replicate, World.setCells]
        rw [Oper.upon_value]
        have hfin := closed_is (l := l) (W7 := W5.setCell ⟨s.g, 1, none⟩ (.int .i64 top)) HP4.out htop (by rw [HXX.out]; exact HB5.out) HL5.out (Turn.refl _ _) (HR5.out.congr fun i hi => by rw [if_neg (by omega)])
        have hturn : Turn (fun k => k = s.g ∨ k = s.gw) w (W5.setCell ⟨s.g, 1, none⟩ (.int .i64 top)) := (Still.turn HT4.out).trans (HT5.out.mono fun k _ e => .inl e)
        have HFIN := Lib.hid hfin
        have HTU := Lib.hid hturn
        clear hfin hturn hrun
        generalize W5.setCell ⟨s.g, 1, none⟩ (.int .i64 top) = W7 at *
        go_wp2_with fail
        go_ret
        exact .inl ⟨l, ⟨HCH.out, by rw [HXX.out]; exact HC3.out⟩, rfl, HFIN.out, HTU.out⟩
      · rename_i hte
        have hrun := run_clear_row (P := Try.prog) (W5.setCell ⟨s.g, 1, none⟩ (.int .i64 top)) 24 33 0 (.int .u64 0) Try.underlying24 zeroU64 rfl rfl s.gw top (s.n - top) (s.n - top) _ _ _ HR5.out (by omega)
        simp only [hrun, Result.andThen]
        rw [Oper.upon_value]
        have hfin := closed_is (l := l) HP4.out htop (by rw [HXX.out]; exact HB5.out) HL5.out (turn_setCells (S := fun k => k = s.gw) (g := s.gw) rfl (List.replicate (s.n - top) (.int .u64 0)) top (Turn.refl _ _)) (rowIs_setCells (z := .int .u64 0) (s.n - top) top HR5.out)
        have hturn : Turn (fun k => k = s.g ∨ k = s.gw) w ((W5.setCell ⟨s.g, 1, none⟩ (.int .i64 top)).setCells s.gw top (List.replicate (s.n - top) (.int .u64 0))) := (Still.turn HT4.out).trans (turn_setCells (S := fun k => k = s.g ∨ k = s.gw) (g := s.gw) (.inr rfl) _ _ (HT5.out.mono fun k _ e => .inl e))
        have HFIN := Lib.hid hfin
        have HTU := Lib.hid hturn
        clear hfin hturn hrun
        generalize (W5.setCell ⟨s.g, 1, none⟩ (.int .i64 top)).setCells s.gw top (List.replicate (s.n - top) (.int .u64 0)) = W7 at *
        go_wp2_with fail
        go_ret
        exact .inl ⟨l, ⟨HCH.out, by rw [HXX.out]; exact HC3.out⟩, rfl, HFIN.out, HTU.out⟩
end Go.Proofs.Ythfkgkddklnnhaa
/- Which words Close takes: those that are a list of objects. Plain facts. -/
namespace Go.Proofs.Ythfkgkddklnnhaa
set_option linter.unusedVariables false
open M (W)

def TileTo (s : St) (top : Nat) : Nat → List RO → Prop
  | p, [] => p = top
  | p, o :: L => o.at_ = p ∧ TileTo s top (p + s.sz o) L
theorem TileTo.tile {s : St} : ∀ {L : List RO} {p : Nat}, TileTo s s.top p L → Tile s p L
  | [], p, h => h
  | o :: L, p, h => ⟨h.1, TileTo.tile h.2⟩
theorem Tile.to {s : St} : ∀ {L : List RO} {p : Nat}, Tile s p L → TileTo s s.top p L
  | [], p, h => h
  | o :: L, p, h => ⟨h.1, Tile.to h.2⟩
theorem TileTo.le {s : St} {top : Nat} : ∀ {L : List RO} {p : Nat}, TileTo s top p L → p ≤ top
  | [], p, h => Nat.le_of_eq h
  | o :: L, p, h => by have := TileTo.le h.2; omega
theorem TileTo.into {s s' : St} {top : Nat} (hz : ∀ o, s'.sz o = s.sz o) (ht : s'.top = top) : ∀ {L : List RO} {p : Nat}, TileTo s top p L → Tile s' p L
  | [], p, h => (show p = top from h).trans ht.symm
  | o :: L, p, h => ⟨h.1, by rw [hz]; exact TileTo.into hz ht h.2⟩
/-- The words of s up to top are the objects L. -/
structure LaidAs (s : St) (top : Nat) (L : List RO) : Prop where
  tile : TileTo s top 0 L
  good : ∀ o ∈ L, Good s o
  fit : ∀ o ∈ L, ∀ v ∈ o.fs, v % 2 = 1 ∨ ∃ p ∈ L, p.at_ = v / 2

theorem Good.ob {s : St} {o : RO} (h : Good s o) (hm : s.m ≤ 512) : s.ob (s.ws o.at_) = ⟨o.sh, s.kind o.sh, o.n, s.need o.sh o.n⟩ ∧ M.sh (s.ws o.at_ : Int) = o.sh ∧ M.ln (s.ws o.at_ : Int) = o.n := by
  obtain ⟨k0, k1, k2, k3⟩ := h.kd
  have hx : ((s.ws o.at_ : Nat) : Int) = M.hd o.sh o.n 0 0 := by rw [h.hd]; exact Int.toNat_of_nonneg (M.hd_lo ..)
  have e1 : M.sh (s.ws o.at_ : Int) = o.sh := by unfold M.sh; rw [hx, M.hd_shape]; omega
  have e2 : M.ln (s.ws o.at_ : Int) = o.n := by unfold M.ln; rw [hx, M.hd_len]; omega
  exact ⟨by unfold St.ob; rw [e1, e2], e1, e2⟩
theorem Good.reads {s : St} {o : RO} (h : Good s o) (hm : s.m ≤ 512) {top : Nat} (ht : o.at_ + s.sz o ≤ top) : s.reads o.at_ top = true ∧ s.nd o.at_ = s.sz o ∧ s.headB o.at_ = true := by
  obtain ⟨hob, e1, e2⟩ := h.ob hm
  obtain ⟨z1, z2, z3⟩ := h.sz
  have hx : ((s.ws o.at_ : Nat) : Int) = M.hd o.sh o.n 0 0 := by rw [h.hd]; exact Int.toNat_of_nonneg (M.hd_lo ..)
  refine ⟨?_, ?_, ?_⟩
  · unfold St.reads St.obE
    rw [hob, e1, e2, h.e]
    simp only [decide_true, Bool.true_and, decide_eq_true_eq]
    rw [z2]; omega
  · unfold St.nd; rw [hob]; rfl
  · unfold St.headB
    rw [decide_eq_true_eq, e1, e2, hx]
theorem chain_of {s : St} {top : Nat} (hm : s.m ≤ 512) {good : Nat → Bool} : ∀ {L : List RO} {p q : Nat}, TileTo s q p L → (∀ o ∈ L, Good s o) → (∀ o ∈ L, good o.at_ = true) → q ≤ top → ChainTo s top good p q (L.map RO.at_)
  | [], p, q, h, _, _, _ => h
  | o :: L, p, q, h, hg, hd, hq => by
    obtain ⟨h1, h2⟩ := h
    have hgo := hg o (List.mem_cons_self)
    have hle := h2.le
    subst h1
    obtain ⟨r1, r2, r3⟩ := hgo.reads hm (top := top) (by omega)
    have z := hgo.sz.2.2
    refine ⟨rfl, by omega, r1, hd o (List.mem_cons_self), ?_⟩
    rw [r2]
    exact chain_of hm h2 (fun o ho => hg o (List.mem_cons_of_mem _ ho)) (fun o ho => hd o (List.mem_cons_of_mem _ ho)) hq
theorem wordOf_small (bs : List Nat) (hb : ∀ v ∈ bs, v < 256) (j t : Nat) (ht : t < 8) (h0 : ∀ i, j * 8 + t ≤ i → bs.getD i 0 = 0) : M.wordOf bs j < 256 ^ t := by
  have hl := fun i => getD_lt hb i
  unfold M.wordOf
  have l0 := hl (j * 8); have l1 := hl (j * 8 + 1); have l2 := hl (j * 8 + 2); have l3 := hl (j * 8 + 3); have l4 := hl (j * 8 + 4); have l5 := hl (j * 8 + 5); have l6 := hl (j * 8 + 6); have l7 := hl (j * 8 + 7)
  obtain rfl | rfl | rfl | rfl | rfl | rfl | rfl | rfl : t = 0 ∨ t = 1 ∨ t = 2 ∨ t = 3 ∨ t = 4 ∨ t = 5 ∨ t = 6 ∨ t = 7 := by omega
  · rw [h0 (j * 8) (by omega), h0 (j * 8 + 1) (by omega), h0 (j * 8 + 2) (by omega), h0 (j * 8 + 3) (by omega), h0 (j * 8 + 4) (by omega), h0 (j * 8 + 5) (by omega), h0 (j * 8 + 6) (by omega), h0 (j * 8 + 7) (by omega)]; decide
  · rw [h0 (j * 8 + 1) (by omega), h0 (j * 8 + 2) (by omega), h0 (j * 8 + 3) (by omega), h0 (j * 8 + 4) (by omega), h0 (j * 8 + 5) (by omega), h0 (j * 8 + 6) (by omega), h0 (j * 8 + 7) (by omega)]; simp only [Nat.reducePow]; omega
  · rw [h0 (j * 8 + 2) (by omega), h0 (j * 8 + 3) (by omega), h0 (j * 8 + 4) (by omega), h0 (j * 8 + 5) (by omega), h0 (j * 8 + 6) (by omega), h0 (j * 8 + 7) (by omega)]; simp only [Nat.reducePow]; omega
  · rw [h0 (j * 8 + 3) (by omega), h0 (j * 8 + 4) (by omega), h0 (j * 8 + 5) (by omega), h0 (j * 8 + 6) (by omega), h0 (j * 8 + 7) (by omega)]; simp only [Nat.reducePow]; omega
  · rw [h0 (j * 8 + 4) (by omega), h0 (j * 8 + 5) (by omega), h0 (j * 8 + 6) (by omega), h0 (j * 8 + 7) (by omega)]; simp only [Nat.reducePow]; omega
  · rw [h0 (j * 8 + 5) (by omega), h0 (j * 8 + 6) (by omega), h0 (j * 8 + 7) (by omega)]; simp only [Nat.reducePow]; omega
  · rw [h0 (j * 8 + 6) (by omega), h0 (j * 8 + 7) (by omega)]; simp only [Nat.reducePow]; omega
  · rw [h0 (j * 8 + 7) (by omega)]; simp only [Nat.reducePow]; omega
theorem Good.fill {s : St} {o : RO} (h : Good s o) (hm : s.m ≤ 512) (x : Nat → Nat) (hf : ∀ v ∈ o.fs, M.fits x v = true) : s.fillB x o.at_ = true := by
  obtain ⟨hob, e1, e2⟩ := h.ob hm
  obtain ⟨r1, r2, r3⟩ := h.reads hm (Nat.le_refl _)
  unfold St.fillB St.holds
  rw [hob, r2]
  obtain ⟨z1, z2, z3⟩ := h.sz
  show (if s.kind o.sh = 3 then decide ((o.n : Int) % 8 = 0) || decide ((s.ws (o.at_ + s.sz o - 1) : Int) / 2 ^ ((o.n : Int) % 8 * 8).toNat = 0) else (List.range (s.sz o - 1)).all fun i => M.fits x (s.ws (o.at_ + 1 + i))) = true
  by_cases hk : s.kind o.sh = 3
  · rw [if_pos hk] at z1 ⊢
    obtain ⟨f1, f2, f3⟩ := h.b hk
    by_cases h8 : o.n % 8 = 0
    · rw [decide_eq_true (show (o.n : Int) % 8 = 0 by omega), Bool.true_or]
    · rw [Bool.or_eq_true, decide_eq_true_eq, decide_eq_true_eq]
      right
      have hj := f3 (o.n / 8) (by omega)
      rw [show o.at_ + s.sz o - 1 = o.at_ + 1 + o.n / 8 by omega, hj]
      have hsm := wordOf_small o.bs h.bl (o.n / 8) (o.n % 8) (by omega) (fun i hi => by
        rw [List.getD_eq_getElem?_getD, List.getElem?_eq_none (by omega)]; rfl)
      have e : ((o.n : Int) % 8 * 8).toNat = o.n % 8 * 8 := by omega
      rw [e]
      have e3 : (2 : Int) ^ (o.n % 8 * 8) = ((256 ^ (o.n % 8) : Nat) : Int) := by
        have e4 : (256 : Nat) ^ (o.n % 8) = 2 ^ (o.n % 8 * 8) := by rw [Nat.mul_comm, Nat.pow_mul]
        rw [e4, Int.natCast_pow]; rfl
      rw [e3]
      have : M.wordOf o.bs (o.n / 8) / 256 ^ (o.n % 8) = 0 := Nat.div_eq_of_lt hsm
      omega
  · rw [if_neg hk] at z1 ⊢
    obtain ⟨f1, f2, f3⟩ := h.f hk
    refine List.all_eq_true.2 fun i hi => ?_
    have hi' := List.mem_range.1 hi
    rw [f3 i (by omega)]
    refine hf _ ?_
    rw [List.getD_eq_getElem?_getD, List.getElem?_eq_getElem (show i < o.fs.length by omega)]
    exact List.getElem_mem _
/-- What is laid is taken, and read as what it is. -/
theorem LaidAs.closes {s : St} {top : Nat} {L : List RO} (h : LaidAs s top L) (hm : s.m ≤ 512) (htop : top ≤ 65536) : s.closes top (L.map RO.at_) ∧ Sim (s.closed top (L.map RO.at_)) L := by
  have hgr : ∀ o ∈ L, o.at_ < 65536 ∧ o.at_ + s.sz o ≤ top := by
    have : ∀ (L : List RO) p, TileTo s top p L → (∀ o ∈ L, Good s o) → ∀ o ∈ L, o.at_ + s.sz o ≤ top := by
      intro L
      induction L with
      | nil => intro p _ _ o ho; simp at ho
      | cons a L ih =>
        intro p ht hg o ho
        rcases List.mem_cons.1 ho with rfl | ho
        · have := ht.2.le; have := ht.1; omega
        · exact ih _ ht.2 (fun o ho => hg o (List.mem_cons_of_mem _ ho)) o ho
    intro o ho
    have h1 := this L 0 h.tile h.good o ho
    have h2 := (h.good o ho).sz.2.2
    exact ⟨by omega, h1⟩
  have hset := putAll_in (L.map RO.at_) (fun q hq => by obtain ⟨o, ho, rfl⟩ := List.mem_map.1 hq; exact (hgr o ho).1)
  have hfit : ∀ o ∈ L, ∀ v ∈ o.fs, M.fits (M.putAll (L.map RO.at_)) v = true := fun o ho v hv => by
    unfold M.fits
    rcases h.fit o ho v hv with e | ⟨p, hp, e⟩
    · rw [show ((v : Int) % 2 == 1) = true from beq_iff_eq.2 (by omega), Bool.true_or]
    · rw [hset, Bool.or_eq_true]
      right
      rw [List.any_eq_true]
      exact ⟨p.at_, List.mem_map_of_mem hp, by rw [decide_eq_true_eq]; omega⟩
  refine ⟨⟨chain_of hm h.tile h.good (fun o ho => ((h.good o ho).reads hm (Nat.le_refl _)).2.2) (Nat.le_refl _), chain_of hm h.tile h.good (fun o ho => (h.good o ho).fill hm _ (hfit o ho)) (Nat.le_refl _)⟩, ?_, ?_, ?_, ?_⟩
  · exact TileTo.into (s := s) (s' := s.closed top (L.map RO.at_)) (fun _ => rfl) rfl h.tile
  · intro o ho
    refine (h.good o ho).keep rfl rfl rfl fun i i1 i2 => ?_
    show (if i < top then s.ws i else 0) = s.ws i
    rw [if_pos (by have := (hgr o ho).2; omega)]
  · intro k
    show M.inSet (M.putAll (L.map RO.at_)) k = _
    rw [hset, List.any_map]
    congr 1
    funext p
    show decide (k = (p.at_ : Int)) = decide ((p.at_ : Int) = k)
    rw [decide_eq_decide]; exact eq_comm
  · intro i hi
    show (if i < top then s.ws i else 0) = 0
    rw [if_neg (by have : top ≤ i := hi; omega)]
end Go.Proofs.Ythfkgkddklnnhaa
/- A heap in which words are stored, beside the document's; Close of what is right. -/
namespace Go.Proofs.Ythfkgkddklnnhaa
set_option linter.unusedVariables false
open Go.ChangeShapes Go.WideShapes Go.ChangeAt Go.RowKit
open M (W)

theorem store_in (s : St) (k v : Nat) (w : World) (h : HpIs w s) (hk : k < s.n) (hv : v < 18446744073709551616) : Calls Try.prog 9 #[s.ptr, .int .i64 k, .int .u64 v] w fun e w' => e = .returned (.tuple #[]) ∧ HpIs w' (s.put k v) ∧ Turn (fun k => k = s.gw) w w' := by
  have HS := size_any s w h
  have c0 := h.c0
  have cw := h.cw k hk
  have cf : w.frozen? ⟨s.gw, k, none⟩ = false := h.words.frozen k
  have hn := h.n_le
  have HH := Lib.hid h
  have HV := Lib.hid hv
  have h0 : ¬ ((k : Int) < 0) := by omega
  have h1 : ¬ ((s.n : Int) ≤ (k : Int)) := by omega
  clear h hv
  go_enter Try.func9, Try.ntmps9
  go_wp2_with fail
  refine HS.mono ?_; rintro e w ⟨rfl, rfl⟩
  go_wp2_with fail
  go_end0
  exact ⟨rfl, HH.out.setWord k v v (by have := HV.out; omega) HV.out, (Turn.refl (fun k => k = s.gw) w).setCell (p := ⟨s.gw, k, none⟩) (fun _ => rfl) _⟩
theorem store_out (s : St) (k : Int) (v : Nat) (w : World) (h : HpIs w s) (hk : k < 0 ∨ (s.n : Int) ≤ k) : Calls Try.prog 9 #[s.ptr, .int .i64 k, .int .u64 v] w fun e w' => e = .returned (.tuple #[]) ∧ w' = w := by
  have HS := size_any s w h
  clear h
  by_cases h0 : k < 0
  · clear hk
    go_enter Try.func9, Try.ntmps9
    go_wp2_with fail
    first | go_end0 | refine bodyPost_ret (results_none rfl _ _ _) rfl ?_
    exact ⟨rfl, rfl⟩
  · have h1 : (s.n : Int) ≤ k := by omega
    clear hk
    go_enter Try.func9, Try.ntmps9
    go_wp2_with fail
    refine HS.mono ?_; rintro e w ⟨rfl, rfl⟩
    go_wp2_with fail
    first | go_end0 | refine bodyPost_ret (results_none rfl _ _ _) rfl ?_
    exact ⟨rfl, rfl⟩

/-- In w stand the heap s and the document's heap x, whatever they say of one another; both were made since w0. -/
structure Near (w0 w : World) (s : St) (x : Rf) : Prop where
  hp : HpIs w s
  rf : RfIs w0.heap.size w x
  bg : w0.heap.size ≤ s.g
  bgw : w0.heap.size ≤ s.gw
  sep : ∀ o ∈ x.L, o.fv.ownBlock ≠ some s.gw
  below : Below w0.heap.size w0 w
theorem Both.near {w0 w : World} {s : St} {x : Rf} (h : Both w0 w s x) : Near w0 w s x := ⟨h.hp, h.rf, h.bg, h.bgw, h.sep, h.below⟩
theorem Near.still {w0 w w' : World} {s : St} {x : Rf} (h : Near w0 w s x) (t : Still w w') : Near w0 w' s x :=
  { h with hp := h.hp.still t, rf := h.rf.still t, below := h.below.trans ((Still.below t).mono h.below.size) }
theorem Near.rf_gw {w0 w w1 : World} {s : St} {x : Rf} (h : Near w0 w s x) (t : Turn (fun k => k = s.g ∨ k = s.gw) w w1) : RfIs w0.heap.size w1 x := by
  refine h.rf.keep t ?_ ?_ ?_ ?_
  · rintro k (rfl | rfl)
    · exact h.bg
    · exact h.bgw
  · rintro (e | e)
    · exact HpIs.rowIs_ne h.rf.blk h.hp.blk (by decide) e
    · exact HpIs.rowIs_ne h.rf.blk h.hp.words (by decide) e
  · rintro k hk (e | e)
    · exact own_type h.rf.row h.hp.blk (by decide) (by rw [hk, e])
    · exact own_type h.rf.row h.hp.words (by decide) (by rw [hk, e])
  · rintro o ho k (hk | hk) (e | e)
    · exact own_type (h.rf.rows o ho).1 h.hp.blk (by decide) (by rw [hk, e])
    · exact h.sep o ho (by rw [hk, e])
    · exact own_type (h.rf.rows o ho).2 h.hp.blk (by decide) (by rw [hk, e])
    · exact own_type (h.rf.rows o ho).2 h.hp.words (by decide) (by rw [hk, e])
theorem Near.step {w0 w w1 : World} {s s1 : St} {x : Rf} (h : Near w0 w s x) (t : Turn (fun k => k = s.g ∨ k = s.gw) w w1) (h1 : HpIs w1 s1) (hg : s1.g = s.g) (hgw : s1.gw = s.gw) : Near w0 w1 s1 x :=
  ⟨h1, h.rf_gw t, by rw [hg]; exact h.bg, by rw [hgw]; exact h.bgw, by rw [hgw]; exact h.sep, t.own h.below (Nat.le_refl _) (by
    rintro k (rfl | rfl)
    · exact h.bg
    · exact h.bgw)⟩
/-- What the heap is behind a Close of what is right. -/
abbrev St.as (s : St) (L : List RO) : St := s.closed s.top (L.map RO.at_)
theorem Both.laid {w0 w : World} {s : St} {x : Rf} (h : Both w0 w s x) : LaidAs s s.top x.L := by
  refine ⟨h.sim.tile.to, h.sim.good, fun o ho v hv => ?_⟩
  have hf := h.fit o ho v hv
  unfold St.fits M.fits at hf
  rw [Bool.or_eq_true] at hf
  rcases hf with hf | hf
  · left; have := beq_iff_eq.1 hf; omega
  · right
    have h2 := h.sim.heads ((v : Int) / 2)
    unfold St.is at h2
    unfold M.inSet at hf
    rw [hf] at h2
    obtain ⟨p, hp, e⟩ := List.any_eq_true.1 h2.symm
    exact ⟨p, hp, by have := of_decide_eq_true e; omega⟩
theorem Both.into {w0 w w1 : World} {s s1 : St} {x : Rf} (h : Both w0 w s x) (hn : Near w0 w1 s1 x) (e1 : s1.n = s.n) (e2 : s1.m = s.m) (e3 : s1.lk = s.lk) (e4 : s1.ln = s.ln) (hs : Sim s1 x.L) : Both w0 w1 s1 x := by
  refine ⟨hn.hp, hn.rf, hn.bg, hn.bgw, h.n.trans e1.symm, h.len.trans e2.symm, h.K.trans e3.symm, h.N.trans e4.symm, hn.sep, hs, hn.below, fun o ho v hv => ?_⟩
  have hf := h.fit o ho v hv
  unfold St.fits M.fits at hf ⊢
  have i1 := h.sim.heads ((v : Int) / 2)
  have i2 := hs.heads ((v : Int) / 2)
  unfold St.is at i1 i2
  unfold M.inSet at hf ⊢
  rw [i2, ← i1]; exact hf
/-- What is right is closed as it is. -/
theorem close_as {w0 w : World} {s : St} {x : Rf} (h : Both w0 w s x) : Calls Try.prog 11 #[s.ptr, .int .i64 s.top] w fun e w' => e = .returned (.int .i64 0) ∧ Both w0 w' (s.as x.L) x ∧ Turn (fun k => k = s.g ∨ k = s.gw) w w' := by
  have hl := h.laid.closes h.hp.m_le (by have := h.hp.top_le; have := h.hp.n_le; omega)
  refine (close_in s s.top w h.hp h.hp.top_le).mono fun e w' hor => ?_
  rcases hor with ⟨l, hc, he, hp, ht⟩ | ⟨hno, _, _⟩
  · have hll : l = x.L.map RO.at_ := hc.1.same hl.1.1
    subst hll
    exact ⟨he, h.into (h.near.step ht hp rfl rfl) rfl rfl rfl rfl hl.2, ht⟩
  · exact absurd hl.1 (hno _)
theorem close_not {s : St} {w : World} (top : Nat) (h : HpIs w s) (htop : top ≤ s.n) (hno : ∀ l, ¬ s.closes top l) : Calls Try.prog 11 #[s.ptr, .int .i64 top] w fun e w' => e = .returned (.int .i64 1) ∧ Still w w' :=
  (close_in s top w h htop).mono fun e w' hor => by
    rcases hor with ⟨l, hc, _⟩ | ⟨_, he, ht⟩
    · exact absurd hc (hno l)
    · exact ⟨he, ht⟩
theorem TileTo.split {s : St} {top : Nat} : ∀ {L : List RO} {p k : Nat} {o : RO}, TileTo s top p L → L[k]? = some o → TileTo s o.at_ p (L.take k)
  | [], _, _, _, _, h => by simp at h
  | a :: L, p, 0, o, h, hk => by simp at hk; subst hk; exact h.1.symm
  | a :: L, p, k + 1, o, h, hk => ⟨h.1, TileTo.split h.2 (by simpa using hk)⟩
/-- A head that is none: such words are refused. -/
theorem bad_head {s : St} {L : List RO} (h : Sim s L) (hm : s.m ≤ 512) {k v : Nat} {o : RO} (hk : L[k]? = some o) (hv : (v : Int) ≠ M.hd (M.sh v) (M.ln v) 0 0) : ∀ l, ¬ (s.put o.at_ v).closes s.top l := by
  intro l hc
  have ht := (TileTo.split h.tile.to hk)
  have hgo := h.good o (List.mem_of_getElem? hk)
  have hz := hgo.sz.2.2
  have hle := (h.tile.get hk).2
  have hgood : ∀ p ∈ L.take k, Good (s.put o.at_ v) p := fun p hp => by
    obtain ⟨j, hj⟩ := List.mem_iff_getElem?.1 hp
    have hjk : j < k := by
      have := (List.getElem?_eq_some_iff.1 hj).1
      rw [List.length_take] at this; omega
    rw [List.getElem?_take, if_pos hjk] at hj
    have := h.tile.order hjk hj hk
    refine (h.good p (List.mem_of_getElem? hj)).keep rfl rfl rfl fun i i1 i2 => ?_
    show (if i = o.at_ then v else s.ws i) = s.ws i
    rw [if_neg (by omega)]
  have ht' : TileTo (s.put o.at_ v) o.at_ 0 (L.take k) := by
    have : ∀ (L : List RO) p, TileTo s o.at_ p L → TileTo (s.put o.at_ v) o.at_ p L := by
      intro L
      induction L with
      | nil => intro p h; exact h
      | cons a L ih => intro p h; exact ⟨h.1, ih _ h.2⟩
    exact this _ _ ht
  have hch := chain_of (s := s.put o.at_ v) (top := s.top) (good := (s.put o.at_ v).headB) hm ht' hgood (fun p hp => ((hgood p hp).reads hm (Nat.le_refl _)).2.2) (by omega)
  have hd := hch.det hc.1 (by omega)
  have h2 := hd.2
  unfold St.headB at h2
  rw [decide_eq_true_eq] at h2
  have e : (s.put o.at_ v).ws o.at_ = v := by show (if o.at_ = o.at_ then v else _) = v; rw [if_pos rfl]
  rw [e] at h2
  exact hv h2
/-- A nought behind the top: such a top is refused. -/
theorem bad_top {s : St} {L : List RO} (h : Sim s L) (hm : s.m ≤ 512) : ∀ l, ¬ s.closes (s.top + 1) l := by
  intro l hc
  have hch := chain_of (top := s.top + 1) (good := s.headB) hm h.tile.to h.good (fun p hp => ((h.good p hp).reads hm (Nat.le_refl _)).2.2) (by omega)
  have h2 := (hch.det hc.1 (by omega)).2
  unfold St.headB at h2
  rw [decide_eq_true_eq, h.zero s.top (Nat.le_refl _)] at h2
  unfold M.sh M.ln M.fld M.hd at h2
  omega
end Go.Proofs.Ythfkgkddklnnhaa
