/- The contract of Close. -/
import Derived.Test.YteanlncnhncpbaaLaid
import Derived.Deep.MidRow
import Derived.Laws.ResultCell
import Derived.Shelf.Abstract
namespace Go.Proofs.Yteanlncnhncpbaa
set_option linter.unusedVariables false
open Go.ChangeShapes Go.WideShapes Go.ChangeAt Go.RowKit
open M (W)

/-- A set of places, as its cells. -/
def M.cellsOf (x : Nat → Nat) : List Value := (List.range 1024).map fun i => .int .u64 (x i : Nat)
theorem cellsOf_len (x : Nat → Nat) : (M.cellsOf x).length = 1024 := by unfold M.cellsOf; simp
theorem cellsOf_at (x : Nat → Nat) (i : Nat) (hi : i < 1024) : (M.cellsOf x)[i]? = some (.int .u64 (x i : Nat)) := by
  unfold M.cellsOf; rw [List.getElem?_map, List.getElem?_range hi]; rfl
def zP : Array Value := (M.cellsOf fun _ => 0).toArray
theorem zP_size : zP.size = 1024 := by unfold zP; rw [List.size_toArray, cellsOf_len]
theorem zeroPlaces : (Try.prog.info? 97).map (fun i => (i.zero, i.size)) = some (some (.agg zP), 1024) := by kernel_rfl
theorem infoPl : (Try.prog.info? 97).map (·.size) = some 1024 := by kernel_rfl
theorem zP_row (W : World) : (W.alloc (.cells zP 97)).rowIs W.heap.size 97 1024 (fun _ => .int .u64 (0 : Nat)) := by
  refine ⟨_, heap_alloc_new W _, zP_size, fun i hi => ?_⟩
  unfold zP
  have := cellsOf_at (fun _ => 0) i hi
  simpa using this
theorem set_range {W : World} {g o : Nat} {x : Nat → Nat} (h : SetAt W g o x) : W.rangeAt g o (M.cellsOf x) := fun j v hj => by
  have hl : j < 1024 := by
    have := (List.getElem?_eq_some_iff.1 hj).1
    rw [cellsOf_len] at this; exact this
  rw [cellsOf_at x j hl] at hj
  injection hj with hj
  rw [← hj]; exact (h j hl).1
theorem rowIs_there {W : World} {g N o n : Nat} {t : TypeId} {f : Nat → Value} (h : W.rowIs g t N f) (hn : o + n ≤ N) : W.there g o n := fun j hj => by
  refine ⟨?_, h.frozen _⟩
  rw [h.cell (i := o + j) (by omega)]; rfl
theorem rowIs_setList {g : Nat} {t : TypeId} {N : Nat} : ∀ (vs : List Value) (o : Nat) {w : World} {f : Nat → Value}, w.rowIs g t N f → (w.setCells g o vs).rowIs g t N (fun i => if o ≤ i ∧ i < o + vs.length then vs.getD (i - o) undef else f i)
  | [], o, w, f, h => h.congr fun i _ => by rw [if_neg (by simp)]
  | v :: vs, o, w, f, h => by
    rw [World.setCells]
    exact (rowIs_setList vs (o + 1) (h.set o v)).congr fun i _ => by
      simp only [List.length_cons]
      by_cases e : i = o
      · subst e
        rw [if_neg (by omega), if_pos rfl, if_pos (by omega), Nat.sub_self]; rfl
      · by_cases e2 : o + 1 ≤ i ∧ i < o + 1 + vs.length
        · rw [if_pos e2, if_pos (by omega), show i - o = (i - (o + 1)) + 1 by omega, List.getD_cons_succ]
        · rw [if_neg e2, if_neg e, if_neg (by omega)]
theorem oneP : ∀ x : Nat → Nat, ∀ v ∈ M.cellsOf x, v.oneCell' = true := by
  intro x v hv
  unfold M.cellsOf at hv
  obtain ⟨i, _, rfl⟩ := List.mem_map.1 hv
  rfl
def LaidJ (w0 w2 : World) (s : St) (hb bx : Nat) (l : List Nat) (W : World) : Prop := LaidI w0 s hb bx l W ∧ Turn (fun k => k = hb) w2 W
set_option maxRecDepth 100000 in
set_option maxHeartbeats 8000000 in
theorem laid_any (s : St) (top : Nat) (w : World) (h : HpIs w s) (htop : top ≤ s.n) :
    Calls Try.prog 61 #[s.ptr, .int .i64 top] w fun e w' => ∃ (l : List Nat) (b : Bool), e = .returned (.tuple #[.agg (M.cellsOf (M.putAll l)).toArray, .bool b]) ∧ Still w w' ∧ ((b = true ∧ ChainTo s top s.headB 0 top l) ∨ (b = false ∧ ∀ hs, ¬ ChainTo s top s.headB 0 top hs)) := by
  have hg := h.blk.lt
  have hzz := (zero_of_info zeroPlaces).1
  have hzs := zP_size
  have hze : ¬ zP = #[] := fun e => by rw [e] at hzs; simp at hzs
  have HH := Lib.hid h
  clear h
  go_enter Try.func61, Try.ntmps61
  go_wp2_with fail
  obtain ⟨bx, hbx⟩ : ∃ bx, w.heap.size = bx := ⟨_, rfl⟩
  have hI0 : LaidJ w (((w.alloc (.cells #[s.ptr] 24)).alloc (.cells zP 97)).alloc (.cells zP 97)) s (w.heap.size + 1 + 1) w.heap.size [] (((w.alloc (.cells #[s.ptr] 24)).alloc (.cells zP 97)).alloc (.cells zP 97)) := by
    have hr := zP_row ((w.alloc (.cells #[s.ptr] 24)).alloc (.cells zP 97))
    have e : ((w.alloc (.cells #[s.ptr] 24)).alloc (.cells zP 97)).heap.size = w.heap.size + 1 + 1 := by simp
    rw [e] at hr
    exact ⟨⟨((HH.out.alloc _).alloc _).alloc _, hr, ((Blk.new w _ _).alloc _).alloc _, by omega, Nat.le_refl _, (((Still.refl w).alloc _).alloc _).alloc _⟩, Turn.refl _ _⟩
  have hrb : (((w.alloc (.cells #[s.ptr] 24)).alloc (.cells zP 97)).alloc (.cells zP 97)).rowIs (w.heap.size + 1) 97 1024 (fun _ => .int .u64 (0 : Nat)) := by
    have hr := (zP_row (w.alloc (.cells #[s.ptr] 24))).alloc (.cells zP 97)
    have e : (w.alloc (.cells #[s.ptr] 24)).heap.size = w.heap.size + 1 := by simp
    rw [e] at hr
    exact hr
  have hsz2 : (((w.alloc (.cells #[s.ptr] 24)).alloc (.cells zP 97)).alloc (.cells zP 97)).heap.size = w.heap.size + 1 + 1 + 1 := by simp
  generalize (((w.alloc (.cells #[s.ptr] 24)).alloc (.cells zP 97)).alloc (.cells zP 97)) = W2 at *
  have hbx0 := hbx
  rw [hbx] at hI0 hrb hsz2 ⊢
  have HWK := walk_any (good := s.headB) s top 87 (enters_of Try.func87 (by kernel_rfl) rfl) (.pointer (some ⟨bx + 1 + 1, 0, none⟩)) (.pointer (some ⟨bx, 0, none⟩)) (fun k => k = bx + 1 + 1) (LaidJ w W2 s (bx + 1 + 1) bx) W2 (fun l W hI => hI.1.hp) (fun l W W' hI t => ⟨hI.1.stay t, hI.2.trans (Still.turn t)⟩) (fun l W hI => hI.2.size) (fun k hk => by omega) hI0 htop
    (fun l p W hI hch hlt hr => (laid1_any w s (bx + 1 + 1) bx p l top W hI.1 hr hlt htop).mono fun e w' ⟨he, h1, h2⟩ => ⟨he, ⟨h1, hI.2.trans h2⟩, h2⟩)
  have HRB := Lib.hid hrb
  have HBW : Hid (w.heap.size = bx) := hbx0
  clear hzz hzs hze hI0 hrb hsz2 hbx hbx0 hg
  refine HWK.mono ?_; rintro e w3 ⟨l, ⟨hI, hT⟩, hor⟩
  obtain ⟨b, rfl, hb⟩ : ∃ b : Bool, e = .returned (.bool b) ∧ ((b = true ∧ ChainTo s top s.headB 0 top l) ∨ (b = false ∧ ∀ hs, ¬ ChainTo s top s.headB 0 top hs)) := by
    rcases hor with ⟨h1, h2⟩ | ⟨h1, h2⟩
    · exact ⟨true, h1, .inl ⟨rfl, h2⟩⟩
    · exact ⟨false, h1, .inr ⟨rfl, h2⟩⟩
  have hr3 := HRB.out.of_block (hT.block _ HRB.out.lt (by omega))
  have hset : w3.rangeAt (bx + 1 + 1) 0 (M.cellsOf (M.putAll l)) := set_range (fun i hi => ⟨by rw [Nat.zero_add]; exact hI.set.cell hi, putAll_lt l i⟩)
  have HI := Lib.hid hI
  have HSET := Lib.hid hset
  have HR3 := Lib.hid hr3
  have HOR := Lib.hid hb
  clear hI hT hor hb hr3 hset HWK HRB
  generalize hx : M.putAll l = x at *
  have HXX := Lib.hid hx
  clear hx
  go_wp2_with (first
    | (refine wpList_load_mid rfl 97 (.tmp 6) rfl (bx + 1 + 1) 0 rfl (M.cellsOf x) _ HSET.out Try.underlying97 rfl (by rw [cellsOf_len]; exact infoPl) ?_)
    | (refine wpList_store_mid rfl 97 (.tmp 4) (.tmp 12) rfl (bx + 1) 0 (M.cellsOf x).toArray rfl rfl (by rw [List.size_toArray, cellsOf_len]; exact rowIs_there HR3.out (by omega)) (by rw [List.size_toArray, cellsOf_len]; exact infoPl) (all_oneCell_toArray (oneP x)) ?_))
  have hld := run_loadVar_mid (P := Try.prog) (w3.setCells (bx + 1) 0 (M.cellsOf x)) (bx + 1) 0 97 (M.cellsOf x) _ (World.rangeAt_setCells_same w3 (bx + 1) 0 (M.cellsOf x) (by rw [cellsOf_len]; exact rowIs_there HR3.out (by omega))) Try.underlying97 rfl (by rw [cellsOf_len]; exact infoPl)
  refine bodyPost_ret (v := .tuple #[.agg (M.cellsOf x).toArray, .bool b]) ?_ rfl ⟨l, b, by rw [HXX.out], ?_, HOR.out⟩
  · rw [results_cell_tmp rfl]
    simp [asAddr, Result.andThen, hld]
  · exact Still.own HI.out.still ((turn_setCells (S := fun k => k = bx + 1) rfl _ _ (Turn.refl _ w3)).mono fun k _ e => by rw [HBW.out]; omega)

def FilledJ (w0 w2 : World) (s : St) (x : Nat → Nat) (hb bx by_ : Nat) (_ : List Nat) (W : World) : Prop := FilledI w0 s x hb bx by_ W ∧ Still w2 W
set_option maxRecDepth 100000 in
set_option maxHeartbeats 8000000 in
theorem filled_any (s : St) (x : Nat → Nat) (hb top : Nat) (w : World) (h : HpIs w s) (hx : SetAt w hb 0 x) (hlt : hb < w.heap.size) (htop : top ≤ s.n) :
    Calls Try.prog 62 #[s.ptr, .int .i64 top, .pointer (some ⟨hb, 0, none⟩)] w fun e w' => ∃ b : Bool, e = .returned (.bool b) ∧ Still w w' ∧ ((b = true ∧ ∃ l, ChainTo s top (s.fillB x) 0 top l) ∨ (b = false ∧ ∀ hs, ¬ ChainTo s top (s.fillB x) 0 top hs)) := by
  have hg := h.blk.lt
  have HH := Lib.hid h
  have HX := Lib.hid hx
  clear h hx
  go_enter Try.func62, Try.ntmps62
  go_wp2_with fail
  have S2 : Still w ((w.alloc (.cells #[s.ptr] 24)).alloc (.cells #[.pointer (some ⟨hb, 0, none⟩)] 107)) := ((Still.refl w).alloc _).alloc _
  have hI0 : FilledJ w ((w.alloc (.cells #[s.ptr] 24)).alloc (.cells #[.pointer (some ⟨hb, 0, none⟩)] 107)) s x hb w.heap.size (w.heap.size + 1) [] ((w.alloc (.cells #[s.ptr] 24)).alloc (.cells #[.pointer (some ⟨hb, 0, none⟩)] 107)) := by
    have hB := Blk.new (w.alloc (.cells #[s.ptr] 24)) 107 #[.pointer (some ⟨hb, 0, none⟩)]
    have e : (w.alloc (.cells #[s.ptr] 24)).heap.size = w.heap.size + 1 := by simp
    rw [e] at hB
    exact ⟨⟨HH.out.still S2, fun i hi => by rw [S2.cell (p := ⟨hb, _, none⟩) hlt]; exact HX.out i hi, Nat.lt_of_lt_of_le hlt S2.size, (Blk.new w _ _).alloc _, hB, S2⟩, Still.refl _⟩
  generalize ((w.alloc (.cells #[s.ptr] 24)).alloc (.cells #[.pointer (some ⟨hb, 0, none⟩)] 107)) = W2 at *
  have HWK := walk_any (good := s.fillB x) s top 88 (enters_of Try.func88 (by kernel_rfl) rfl) (.pointer (some ⟨w.heap.size, 0, none⟩)) (.pointer (some ⟨w.heap.size + 1, 0, none⟩)) (fun _ => False) (FilledJ w W2 s x hb w.heap.size (w.heap.size + 1)) W2 (fun l W hI => hI.1.hp) (fun l W W' hI t => ⟨hI.1.stay t, hI.2.trans t⟩) (fun l W hI => hI.2.size) (fun k hk => hk.elim) hI0 htop
    (fun l p W hI hch hlt hr => (filled1_any w s x hb w.heap.size (w.heap.size + 1) p top W hI.1 hr hlt htop).mono fun e w' ⟨he, h1, h2⟩ => ⟨he, ⟨h1, hI.2.trans h2⟩, h2⟩)
  clear hI0 hg S2
  refine HWK.mono ?_; rintro e w3 ⟨l, ⟨hI, hT⟩, hor⟩
  obtain ⟨b, rfl, hb⟩ : ∃ b : Bool, e = .returned (.bool b) ∧ ((b = true ∧ ∃ l, ChainTo s top (s.fillB x) 0 top l) ∨ (b = false ∧ ∀ hs, ¬ ChainTo s top (s.fillB x) 0 top hs)) := by
    rcases hor with ⟨h1, h2⟩ | ⟨h1, h2⟩
    · exact ⟨true, h1, .inl ⟨rfl, l, h2⟩⟩
    · exact ⟨false, h1, .inr ⟨rfl, h2⟩⟩
  have HI := Lib.hid hI
  have HOR := Lib.hid hb
  clear hI hT hor hb HWK
  go_wp2_with fail
  go_ret
  exact ⟨b, rfl, HI.out.still, HOR.out⟩
theorem wpList_clear_any {P : Program} {w : World} {ops : Array Oper} {rest : List Oper} {o : Oper} {a : Act} {Q : Exit → Act → World → Prop} (hgd : o.guard = none) (x : Operand) (t : TypeId)
    (ho : o.op = .call { callee := .builtin .clear, args := #[x], argTypes := #[t] }) (e : TypeId) (z : Value) (ht : P.underlying t = some (.slice e)) (hv : ∀ w, (zeroValue e).run P w = .ok z w) (hz : z.cells = #[z]) (h1 : z.oneCell' = true)
    (base : Option Addr) (g off n c : Nat) (hx : a.eval x = .slice base n c) (hb : base = some ⟨g, off, none⟩ ∨ n = 0) (t' : TypeId) (N : Nat) (f : Nat → Value) (hr : w.rowIs g t' N f) (hfit : off + n ≤ N)
    (h : ∀ w', Hid (w'.rowIs g t' N (fun i => if off ≤ i ∧ i < off + n then z else f i)) → Hid (Turn (fun k => k = g) w w') → wpList P ops Q rest (a.put o.dst (.tuple #[])) w') : wpList P ops Q (o :: rest) a w := by
  by_cases hn : n = 0
  · subst hn
    refine wpList_plain hgd fun K hK => ?_
    have hrun : (Builtin.clear_ #[t] o.type #[.slice base 0 c]).run P w = .ok (.tuple #[]) w := by
      cases base <;> simp [Builtin.clear_, run_underlying ht]
    unfold Oper.wp
    simp [execOp, ho, resolve, invoke, builtin, hx, hrun, Result.andThen]
    exact hK _ _ (h _ (hr.congr fun i _ => by rw [if_neg (by omega)]) (Turn.refl _ w))
  · rcases hb with rfl | hb
    · exact wpList_clear_row hgd x t ho e z ht hv hz h1 g off n c hx t' N f hr hfit h
    · exact absurd hb hn
/-- The heap that Close leaves. -/
def St.closed (s : St) (top : Nat) (l : List Nat) : St := { s with top := top, hx := M.putAll l, ws := fun i => if i < top then s.ws i else 0 }
def St.closes (s : St) (top : Nat) (l : List Nat) : Prop := ChainTo s top s.headB 0 top l ∧ ChainTo s top (s.fillB (M.putAll l)) 0 top l
theorem closed_is {s : St} {top : Nat} {l : List Nat} {w4 W6 W7 : World} (h : HpIs w4 s) (htop : top ≤ s.n)
    (hb : W6.rowIs s.g 99 1027 (fun j => if j = 1 then .int .i64 top else if 2 ≤ j ∧ j < 2 + (M.cellsOf (M.putAll l)).length then (M.cellsOf (M.putAll l)).getD (j - 2) undef else s.cell j))
    (hl : W6.rowIs s.gl 83 (s.m * 2) s.lay) (t : Turn (fun k => k = s.gw) W6 W7)
    (hr : W7.rowIs s.gw 30 s.n (fun i => if top ≤ i ∧ i < top + (s.n - top) then .int .u64 0 else .int .u64 (s.ws i))) : HpIs W7 (s.closed top l) := by
  have hb7 := hb.of_block (t.block _ hb.lt (fun e => h.ne_gw e))
  have hl7 := hl.of_block (t.block _ hl.lt (fun e => h.ne_wl e.symm))
  refine ⟨hb7.congr fun i hi => ?_, hr.congr fun i hi => ?_, hl7, h.n_le, h.m_le, htop, fun i => ?_, putAll_lt l, h.kinds, h.lens⟩
  · rw [cellsOf_len]
    by_cases e1 : i = 1
    · subst e1; rfl
    · rw [if_neg e1]
      by_cases e0 : i = 0
      · subst e0; rfl
      · by_cases e3 : i = 1026
        · subst e3; rfl
        · rw [if_pos (by omega), List.getD_eq_getElem?_getD, cellsOf_at _ _ (by omega)]
          unfold St.cell
          rw [if_neg e0, if_neg e1, if_neg e3]; rfl
  · show _ = Value.int .u64 ((if i < top then s.ws i else 0 : Nat) : Int)
    by_cases e : i < top
    · rw [if_pos e, if_neg (by omega)]
    · rw [if_neg e, if_pos (by omega)]; rfl
  · show (if i < top then s.ws i else 0) < _
    split
    · exact h.ws_lt i
    · decide
theorem close_out (s : St) (top : Int) (w : World) (h : HpIs w s) (ht : top < 0 ∨ (s.n : Int) < top) : Calls Try.prog 25 #[s.ptr, .int .i64 top] w fun e w' => e = .returned (.int .i64 1) ∧ Still w w' := by
  have HS := size_any s w h
  have hn := h.n_le
  clear h
  by_cases h0 : top < 0
  · clear ht
    go_enter Try.func25, Try.ntmps25
    go_wp2_with fail
    go_ret
    exact ⟨rfl, Still.refl w⟩
  · have h1 : (s.n : Int) < top := by omega
    clear ht
    go_enter Try.func25, Try.ntmps25
    go_wp2_with fail
    refine HS.mono ?_; rintro e w ⟨rfl, rfl⟩
    go_wp2_with fail
    go_ret
    exact ⟨rfl, Still.refl w⟩
set_option maxRecDepth 100000 in
set_option maxHeartbeats 8000000 in
theorem close_in (s : St) (top : Nat) (w : World) (h : HpIs w s) (htop : top ≤ s.n) :
    Calls Try.prog 25 #[s.ptr, .int .i64 top] w fun e w' => (∃ l, s.closes top l ∧ e = .returned (.int .i64 0) ∧ HpIs w' (s.closed top l) ∧ Turn (fun k => k = s.g ∨ k = s.gw) w w') ∨ ((∀ l, ¬ s.closes top l) ∧ e = .returned (.int .i64 1) ∧ Still w w') := by
  have hn := h.n_le
  have HS := size_any s w h
  have HLD := laid_any s top w h htop
  have HH := Lib.hid h
  have hnt : ¬ ((s.n : Int) < (top : Int)) := by omega
  have hzz := (zero_of_info zeroPlaces).1
  have hzs := zP_size
  have hze : ¬ zP = #[] := fun e => by rw [e] at hzs; simp at hzs
  clear h
  go_enter Try.func25, Try.ntmps25
  go_wp2_with fail
  refine HS.mono ?_; rintro e w ⟨rfl, rfl⟩
  go_wp2_with fail
  refine HLD.mono ?_; rintro e w1 ⟨l, b, rfl, t1, hor⟩
  have HT1 := Lib.hid t1
  have HOR := Lib.hid hor
  clear t1 hor HLD HS
  obtain ⟨x, hx⟩ : ∃ x, M.putAll l = x := ⟨_, rfl⟩
  rw [hx]
  have HXX := Lib.hid hx
  clear hx
  have hlen := cellsOf_len x
  have h0 : ¬ ((top : Int) < 0) := by omega
  have hth := rowIs_there (zP_row w1) (o := 0) (n := 1024) (by omega)
  have hsc := run_storeCells_cells (P := Try.prog) w1.heap.size 0 (M.cellsOf x) 0 (w1.alloc (.cells zP 97)) (fun j hj => by rw [hlen] at hj; have h1 := (hth j hj).1; simp only [Nat.zero_add] at h1 ⊢; exact h1) (fun j hj => by rw [hlen] at hj; have h1 := (hth j hj).2; simp only [Nat.zero_add] at h1 ⊢; exact h1) (oneP x)
  rw [Nat.add_zero] at hsc
  clear hth
  have hset := (rowIs_setList (M.cellsOf x) 0 (zP_row w1))
  have hT2 : Still w1 ((w1.alloc (.cells zP 97)).setCells w1.heap.size 0 (M.cellsOf x)) :=
    Still.own ((Still.refl w1).alloc (.cells zP 97)) ((turn_setCells (S := fun k => k = w1.heap.size) rfl _ _ (Turn.refl _ _)).mono fun k _ e => by omega)
  have HSET : Hid (SetAt ((w1.alloc (.cells zP 97)).setCells w1.heap.size 0 (M.cellsOf x)) w1.heap.size 0 x) := fun i hi => by
    refine ⟨?_, by rw [← HXX.out]; exact putAll_lt l i⟩
    rw [Nat.zero_add, hset.cell hi, if_pos (by rw [hlen]; omega), Nat.sub_zero, List.getD_eq_getElem?_getD, cellsOf_at x i hi]; rfl
  have hlt2 := hset.lt
  have HT2 := Lib.hid hT2
  clear hset hT2
  cases b with
  | false =>
    go_wp2_with fail
    go_ret
    refine .inr ⟨fun l' hc => ?_, rfl, HT1.out.trans HT2.out⟩
    rcases HOR.out with ⟨h, _⟩ | ⟨_, h⟩
    · simp at h
    · exact h _ hc.1
  | true =>
    have hch : ChainTo s top s.headB 0 top l := by
      rcases HOR.out with ⟨_, h⟩ | ⟨h, _⟩
      · exact h
      · simp at h
    have HCH := Lib.hid hch
    clear hch HOR
    go_wp2_with fail
    generalize ((w1.alloc (.cells zP 97)).setCells w1.heap.size 0 (M.cellsOf x)) = W2 at *
    generalize w1.heap.size = hb at *
    have HPW := Lib.hid (HH.out.still (HT1.out.trans HT2.out))
    refine (filled_any s x hb top W2 HPW.out HSET.out hlt2 htop).mono ?_; rintro e w4 ⟨b, rfl, t4, hor⟩
    have HT4 := Lib.hid (HT1.out.trans (HT2.out.trans t4))
    have HS4 : Hid (SetAt w4 hb 0 x) := fun i hi => by rw [t4.cell (p := ⟨hb, _, none⟩) hlt2]; exact HSET.out i hi
    have hlt4 : hb < w4.heap.size := Nat.lt_of_lt_of_le hlt2 t4.size
    have HOR := Lib.hid hor
    clear t4 hor HSET HT1 HT2 HPW hsc hzz hzs hze
    cases b with
    | false =>
      go_wp2_with fail
      go_ret
      refine .inr ⟨fun l' hc => ?_, rfl, HT4.out⟩
      have e := hc.1.same HCH.out
      subst e
      rcases HOR.out with ⟨h, _⟩ | ⟨_, h⟩
      · simp at h
      · rw [← HXX.out] at h; exact h _ hc.2
    | true =>
      have hch2 : ∃ l, ChainTo s top (s.fillB x) 0 top l := by
        rcases HOR.out with ⟨_, h⟩ | ⟨h, _⟩
        · exact h
        · simp at h
      have HC3 : Hid (ChainTo s top (s.fillB x) 0 top l) := by
        obtain ⟨l2, h2⟩ := hch2
        rw [HCH.out.same h2]; exact h2
      have hp4 := HH.out.still HT4.out
      have HP4 := Lib.hid hp4
      have hlc := run_loadCells_list (P := Try.prog) w4 ⟨hb, 0, none⟩ (M.cellsOf x) (fun j v hv => by rw [Addr.add_mid]; exact set_range HS4.out j v hv)
      rw [hlen] at hlc
      unfold loadCells at hlc
      have hth := rowIs_there hp4.blk (o := 2) (n := 1024) (by omega)
      have hsc := run_storeCells_cells (P := Try.prog) s.g 2 (M.cellsOf x) 0 w4 (fun j hj => by rw [hlen] at hj; exact (hth j hj).1) (fun j hj => by rw [hlen] at hj; exact (hth j hj).2) (oneP x)
      rw [Nat.add_zero] at hsc
      have hbk := rowIs_setList (M.cellsOf x) 2 hp4.blk
      have HBK := Lib.hid hbk
      have c0 : (w4.setCells s.g 2 (M.cellsOf x)).cell? ⟨s.g, 0, none⟩ = some (.slice (some ⟨s.gw, 0, none⟩) s.n s.n) := by
        rw [hbk.cell (i := 0) (by omega)]; rfl
      have c1 : (w4.setCells s.g 2 (M.cellsOf x)).cell? ⟨s.g, 1, none⟩ = some (.int .i64 s.top) := by
        rw [hbk.cell (i := 1) (by omega)]; rfl
      have f1 : (w4.setCells s.g 2 (M.cellsOf x)).frozen? ⟨s.g, 1, none⟩ = false := hbk.frozen _
      have hgl := hbk.lt
      clear hch2 HOR hth hp4 hbk
      have hbase : (if s.n = top then some (⟨s.gw, 0, none⟩ : Addr) else some ⟨s.gw, top, none⟩) = some ⟨s.gw, top, none⟩ ∨ s.n - top = 0 := by
        by_cases e : s.n = top
        · right; omega
        · left; rw [if_neg e]
      have HBS := Lib.hid hbase
      have hT5 : Turn (fun k => k = s.g) w4 ((w4.setCells s.g 2 (M.cellsOf x)).setCell ⟨s.g, 1, none⟩ (.int .i64 top)) := (turn_setCells (S := fun k => k = s.g) rfl _ _ (Turn.refl _ w4)).setCell (p := ⟨s.g, 1, none⟩) (fun _ => rfl) _
      have hr5 := HP4.out.words.of_block (hT5.block _ HP4.out.words.lt (fun e => HP4.out.ne_gw e.symm))
      have hb5 := HBK.out.set 1 (.int .i64 top)
      have hl5 := HP4.out.lays.of_block (hT5.block _ HP4.out.lays.lt (fun e => HP4.out.ne_gl e.symm))
      have HT5 := Lib.hid hT5
      have HR5 := Lib.hid hr5
      have HB5 := Lib.hid hb5
      have HL5 := Lib.hid hl5
      clear hT5 hr5 hb5 hl5 hbase
      go_wp2_with fail
      refine wp_load_mid 97 (.tmp 5) rfl hb 0 rfl (M.cellsOf x) _ (set_range HS4.out) Try.underlying97 rfl (by rw [cellsOf_len]; exact infoPl) ?_
      clear hsc hlc hlen
      have hth := rowIs_there HP4.out.blk (o := 2) (n := 1024) (by omega)
      have HTH := Lib.hid hth
      clear hth
      go_wp2_with (first
        | (refine wpList_store_mid rfl 97 (.tmp 38) (.tmp 35) rfl s.g 2 (M.cellsOf x).toArray rfl rfl (by rw [List.size_toArray, cellsOf_len]; exact HTH.out) (by rw [List.size_toArray, cellsOf_len]; exact infoPl) (all_oneCell_toArray (oneP x)) ?_; change wpList _ _ _ _ _ (w4.setCells s.g 2 (M.cellsOf x)); generalize w4.setCells s.g 2 (M.cellsOf x) = W5 at *))
      · rename_i hte
        have hrun := run_clear_row (P := Try.prog) (W5.setCell ⟨s.g, 1, none⟩ (.int .i64 top)) 37 30 0 (.int .u64 0) Try.underlying37 zeroU64 rfl rfl s.gw 0 0 0 _ _ _ HR5.out (by omega)
        simp only [hrun, Result.andThen, List.replicate, World.setCells]
        rw [Oper.upon_value]
        have hfin := closed_is (l := l) (W7 := W5.setCell ⟨s.g, 1, none⟩ (.int .i64 top)) HP4.out htop (by rw [HXX.out]; exact HB5.out) HL5.out (Turn.refl _ _) (HR5.out.congr fun i hi => by rw [if_neg (by omega)])
        have hturn : Turn (fun k => k = s.g ∨ k = s.gw) w (W5.setCell ⟨s.g, 1, none⟩ (.int .i64 top)) := (Still.turn HT4.out).trans (HT5.out.mono fun k _ e => .inl e)
        have HFIN := Lib.hid hfin
        have HTU := Lib.hid hturn
        clear hfin hturn hrun
        generalize W5.setCell ⟨s.g, 1, none⟩ (.int .i64 top) = W7 at *
        go_wp2_with fail
        go_ret
        exact .inl ⟨l, ⟨HCH.out, by rw [HXX.out]; exact HC3.out⟩, rfl, HFIN.out, HTU.out⟩
      · rename_i hte
        have hrun := run_clear_row (P := Try.prog) (W5.setCell ⟨s.g, 1, none⟩ (.int .i64 top)) 37 30 0 (.int .u64 0) Try.underlying37 zeroU64 rfl rfl s.gw top (s.n - top) (s.n - top) _ _ _ HR5.out (by omega)
        simp only [hrun, Result.andThen]
        rw [Oper.upon_value]
        have hfin := closed_is (l := l) HP4.out htop (by rw [HXX.out]; exact HB5.out) HL5.out (turn_setCells (S := fun k => k = s.gw) (g := s.gw) rfl (List.replicate (s.n - top) (.int .u64 0)) top (Turn.refl _ _)) (rowIs_setCells (z := .int .u64 0) (s.n - top) top HR5.out)
        have hturn : Turn (fun k => k = s.g ∨ k = s.gw) w ((W5.setCell ⟨s.g, 1, none⟩ (.int .i64 top)).setCells s.gw top (List.replicate (s.n - top) (.int .u64 0))) := (Still.turn HT4.out).trans (turn_setCells (S := fun k => k = s.g ∨ k = s.gw) (g := s.gw) (.inr rfl) _ _ (HT5.out.mono fun k _ e => .inl e))
        have HFIN := Lib.hid hfin
        have HTU := Lib.hid hturn
        clear hfin hturn hrun
        generalize (W5.setCell ⟨s.g, 1, none⟩ (.int .i64 top)).setCells s.gw top (List.replicate (s.n - top) (.int .u64 0)) = W7 at *
        go_wp2_with fail
        go_ret
        exact .inl ⟨l, ⟨HCH.out, by rw [HXX.out]; exact HC3.out⟩, rfl, HFIN.out, HTU.out⟩
end Go.Proofs.Yteanlncnhncpbaa
