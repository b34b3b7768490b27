/- Contracts of layer 2's objects: read, object, field, octet. -/
import Derived.Test.YteanlncnhncpbaaHeapRd
import Derived.WalkSmall
namespace Go.Proofs.Yteanlncnhncpbaa
set_option linter.unusedVariables false
open Go.ChangeShapes Go.WideShapes Go.ChangeAt Go.RowKit
open M (W)

def M.sh (x : Int) : Int := M.fld x 2 1048576
def M.ln (x : Int) : Int := M.fld x 2097152 1048576
theorem M.sh_lo (x : Int) : 0 ≤ M.sh x := M.fld_lo _ _ _ (by decide)
theorem M.ln_lo (x : Int) : 0 ≤ M.ln x := M.fld_lo _ _ _ (by decide)
theorem M.sh_hi (x : Int) : M.sh x < 1048576 := M.fld_hi _ _ _ (by decide)
theorem M.ln_hi (x : Int) : M.ln x < 1048576 := M.fld_hi _ _ _ (by decide)

/-- What a word says if it is taken as a head. -/
structure Ob where
  sh : Int
  kind : Int
  n : Int
  need : Int
def Ob.val (o : Ob) : Value := .agg #[.int .i64 o.sh, .int .i64 o.kind, .int .i64 o.n, .int .i64 o.need]
def St.ob (s : St) (x : Int) : Ob := ⟨M.sh x, s.kind (M.sh x), M.ln x, s.need (M.sh x) (M.ln x)⟩
def St.obE (s : St) (x : Int) : Int := s.needE (M.sh x) (M.ln x)

set_option maxHeartbeats 1000000 in
theorem read_ok (s : St) (k : Nat) (top : Int) (w : World) (h : HpIs w s) (hk : k < s.n) (ht : top ≤ 65536) (h0 : -65536 ≤ top) (he : s.obE (s.ws k) = 0) (hn : (s.ob (s.ws k)).need ≤ top - k) :
    Calls Try.prog 101 #[s.ptr, .int .i64 k, .int .i64 top] w fun e w' => e = .returned (.tuple #[(s.ob (s.ws k)).val, .bool true]) ∧ Still w w' := by
  have c0 := h.c0
  have cw := h.cw k hk
  have hg := h.blk.lt
  have hgw := h.words.lt
  have hnn := h.n_le
  have hx := h.ws_lt k
  have HS := fun W => shape_any (s.ws k) W (by omega) (by omega)
  have HL := fun W => len_any (s.ws k) W (by omega) (by omega)
  have l1 := M.sh_lo (s.ws k)
  have l2 := M.ln_lo (s.ws k)
  have HN := fun W (hW : HpIs W s) => need_any s (M.sh (s.ws k)) (M.ln (s.ws k)) W hW
  have HK := fun W (hW : HpIs W s) => kind_any s (M.sh (s.ws k)) W hW
  unfold St.obE at he
  unfold St.ob Ob.val at *
  simp only at hn ⊢
  rw [he] at HN
  change ∀ W, Calls _ _ _ W fun e w' => e = .returned (.int .i64 (M.sh (s.ws k))) ∧ w' = W at HS
  change ∀ W, Calls _ _ _ W fun e w' => e = .returned (.int .i64 (M.ln (s.ws k))) ∧ w' = W at HL
  generalize M.sh (s.ws k) = A at *
  generalize M.ln (s.ws k) = B at *
  generalize s.need A B = D at *
  generalize s.kind A = K at *
  clear he
  go_enter Try.func101, Try.ntmps101
  go_wp2_with fail
  refine (HS _).mono ?_; rintro e w1 ⟨rfl, rfl⟩
  go_wp2_with fail
  refine (HL _).mono ?_; rintro e w1 ⟨rfl, rfl⟩
  go_wp2_with fail
  refine (HN _ ((h.alloc _).alloc _)).mono ?_; rintro e w1 ⟨rfl, rfl⟩
  go_wp2_with fail
  refine (HK _ ((h.alloc _).alloc _)).mono ?_; rintro e w1 ⟨rfl, rfl⟩
  go_wp2_with fail
  refine bodyPost_ret (v := .tuple #[.agg #[.int .i64 A, .int .i64 K, .int .i64 B, .int .i64 D], .bool true]) (by simp [results, Try.results101, go_sem]) rfl ⟨rfl, ?_⟩
  exact ((Turn.refl _ _).alloc _).alloc _

def Ob.none : Value := .agg #[.int .i64 0, .int .i64 0, .int .i64 0, .int .i64 0]
set_option maxHeartbeats 1000000 in
theorem read_bad (s : St) (k : Nat) (top : Int) (w : World) (h : HpIs w s) (hk : k < s.n) (ht : top ≤ 65536) (h0 : -65536 ≤ top) (hb : s.obE (s.ws k) ≠ 0 ∨ top - k < (s.ob (s.ws k)).need) :
    Calls Try.prog 101 #[s.ptr, .int .i64 k, .int .i64 top] w fun e w' => e = .returned (.tuple #[Ob.none, .bool false]) ∧ Still w w' := by
  have c0 := h.c0
  have cw := h.cw k hk
  have hg := h.blk.lt
  have hgw := h.words.lt
  have hnn := h.n_le
  have hx := h.ws_lt k
  have HS := fun W => shape_any (s.ws k) W (by omega) (by omega)
  have HL := fun W => len_any (s.ws k) W (by omega) (by omega)
  have l1 := M.sh_lo (s.ws k)
  have l2 := M.ln_lo (s.ws k)
  have HN := fun W (hW : HpIs W s) => need_any s (M.sh (s.ws k)) (M.ln (s.ws k)) W hW
  unfold St.obE at hb
  unfold St.ob Ob.none at *
  simp only at hb
  change ∀ W, Calls _ _ _ W fun e w' => e = .returned (.int .i64 (M.sh (s.ws k))) ∧ w' = W at HS
  change ∀ W, Calls _ _ _ W fun e w' => e = .returned (.int .i64 (M.ln (s.ws k))) ∧ w' = W at HL
  generalize M.sh (s.ws k) = A at *
  generalize M.ln (s.ws k) = B at *
  generalize s.need A B = D at *
  generalize s.needE A B = E at *
  by_cases hE : E = 0
  · subst hE
    have hD : top - k < D := by omega
    clear hb
    go_enter Try.func101, Try.ntmps101
    go_wp2_with fail
    refine (HS _).mono ?_; rintro e w1 ⟨rfl, rfl⟩
    go_wp2_with fail
    refine (HL _).mono ?_; rintro e w1 ⟨rfl, rfl⟩
    go_wp2_with fail
    refine (HN _ ((h.alloc _).alloc _)).mono ?_; rintro e w1 ⟨rfl, rfl⟩
    go_wp2_with fail
    refine bodyPost_ret (v := .tuple #[.agg #[.int .i64 0, .int .i64 0, .int .i64 0, .int .i64 0], .bool false]) (by simp [results, Try.results101, go_sem]) rfl ⟨rfl, ?_⟩
    exact ((Turn.refl _ _).alloc _).alloc _
  · have hz : ((E : Int) != 0) = true := by simpa using hE
    clear hb hE
    go_enter Try.func101, Try.ntmps101
    go_wp2_with fail
    refine (HS _).mono ?_; rintro e w1 ⟨rfl, rfl⟩
    go_wp2_with fail
    refine (HL _).mono ?_; rintro e w1 ⟨rfl, rfl⟩
    go_wp2_with fail
    refine (HN _ ((h.alloc _).alloc _)).mono ?_; rintro e w1 ⟨rfl, rfl⟩
    go_wp2_with fail
    refine bodyPost_ret (v := .tuple #[.agg #[.int .i64 0, .int .i64 0, .int .i64 0, .int .i64 0], .bool false]) (by simp [results, Try.results101, go_sem]) rfl ⟨rfl, ?_⟩
    exact ((Turn.refl _ _).alloc _).alloc _

/-- A block of four cells of the call's own, behind a call that turned nothing. -/
theorem still4 {W w1 : World} {a b c d : Value} {t : TypeId} (ht : Still (W.alloc (.cells #[a, b, c, d] t)) w1) :
    w1.cell? ⟨W.heap.size, 0, none⟩ = some a ∧ w1.cell? ⟨W.heap.size, 1, none⟩ = some b ∧ w1.cell? ⟨W.heap.size, 2, none⟩ = some c ∧ w1.cell? ⟨W.heap.size, 3, none⟩ = some d ∧
      (∀ o, w1.frozen? ⟨W.heap.size, o, none⟩ = false) ∧ W.heap.size < w1.heap.size := by
  have hb := ht.blk (Blk.new W t #[a, b, c, d])
  exact ⟨hb.cell 0, hb.cell 1, hb.cell 2, hb.cell 3, hb.frozen, hb.lt⟩
theorem own_set {S : Nat → Prop} {w w' : World} (h : Turn S w w') (o : Nat) (u : Value) {b : Nat} (hb : w.heap.size ≤ b) : Turn S w (w'.setCell ⟨b, o, none⟩ u) := h.setCell (fun e => absurd e (Nat.not_lt.2 hb)) u
/-- Is what stands at a place read as an object up to top? -/
def St.reads (s : St) (k : Nat) (top : Int) : Bool := decide (s.obE (s.ws k) = 0) && decide ((s.ob (s.ws k)).need ≤ top - k)
theorem object_nil (i : Int) (w : World) : Calls Try.prog 74 #[.pointer none, .int .i64 i] w fun e w' => e = .returned (.tuple #[Ob.none, .bool false]) ∧ Still w w' := by
  unfold Ob.none
  go_enter Try.func74, Try.ntmps74
  go_wp2_with (go_at_call 100; (with_reducible refine (is_nil _ _).mono ?_); rintro e w ⟨rfl, rfl⟩)
  refine bodyPost_ret (v := .tuple #[.agg #[.int .i64 0, .int .i64 0, .int .i64 0, .int .i64 0], .bool false]) (by simp [results, Try.results74, go_sem]) rfl ⟨rfl, ?_⟩
  exact ((Turn.refl _ _).alloc _)
theorem object_no (s : St) (i : Int) (w : World) (h : HpIs w s) (hi : s.is i = false) : Calls Try.prog 74 #[s.ptr, .int .i64 i] w fun e w' => e = .returned (.tuple #[Ob.none, .bool false]) ∧ Still w w' := by
  have HI := fun W (hW : HpIs W s) => is_any s i W hW
  rw [hi] at HI
  unfold Ob.none
  clear hi
  go_enter Try.func74, Try.ntmps74
  go_wp2_with fail
  refine (HI _ (h.alloc _)).mono ?_; rintro e w1 ⟨rfl, rfl⟩
  go_wp2_with fail
  refine bodyPost_ret (v := .tuple #[.agg #[.int .i64 0, .int .i64 0, .int .i64 0, .int .i64 0], .bool false]) (by simp [results, Try.results74, go_sem]) rfl ⟨rfl, ?_⟩
  exact ((Turn.refl _ _).alloc _)
theorem object_ok (s : St) (k : Nat) (w : World) (h : HpIs w s) (hi : s.is k = true) (hk : k < s.n) (hr : s.reads k s.n = true) : Calls Try.prog 74 #[s.ptr, .int .i64 k] w fun e w' => e = .returned (.tuple #[(s.ob (s.ws k)).val, .bool true]) ∧ Still w w' := by
  have HI := fun W (hW : HpIs W s) => is_any s k W hW
  have hnn := h.n_le
  have c0 := h.c0
  have hg := h.blk.lt
  unfold St.reads at hr
  simp only [Bool.and_eq_true, decide_eq_true_eq] at hr
  have HR := fun W (hW : HpIs W s) => read_ok s k s.n W hW hk (by omega) (by omega) hr.1 hr.2
  rw [hi] at HI
  clear hi hr
  unfold Ob.val at *
  generalize s.ob (s.ws k) = o at *
  go_enter Try.func74, Try.ntmps74
  go_wp2_with fail
  refine (HI _ (h.alloc _)).mono ?_; rintro e w1 ⟨rfl, rfl⟩
  go_wp2_with fail
  refine (HR _ (h.alloc _)).mono ?_; rintro e w1 ⟨rfl, ht⟩
  obtain ⟨d0, d1, d2, d3, df, dl⟩ := still4 ht
  have HT := Lib.hid ht; clear ht
  go_wp2_with fail
  refine bodyPost_ret (v := .tuple #[.agg #[.int .i64 o.sh, .int .i64 o.kind, .int .i64 o.n, .int .i64 o.need], .bool true]) (by simp [results, Try.results74, go_sem, d0, d1, d2, d3]) rfl ⟨rfl, ?_⟩
  exact own_set (own_set (own_set (own_set (((Turn.refl _ _).alloc _).trans (Still.turn HT.out)) _ _ (Nat.le_refl _)) _ _ (Nat.le_refl _)) _ _ (Nat.le_refl _)) _ _ (Nat.le_refl _)
theorem object_bad (s : St) (k : Nat) (w : World) (h : HpIs w s) (hi : s.is k = true) (hk : k < s.n) (hr : s.reads k s.n = false) : Calls Try.prog 74 #[s.ptr, .int .i64 k] w fun e w' => e = .returned (.tuple #[Ob.none, .bool false]) ∧ Still w w' := by
  have HI := fun W (hW : HpIs W s) => is_any s k W hW
  have hnn := h.n_le
  have c0 := h.c0
  have hg := h.blk.lt
  unfold St.reads at hr
  simp only [Bool.and_eq_false_iff, decide_eq_false_iff_not] at hr
  have HR := fun W (hW : HpIs W s) => read_bad s k s.n W hW hk (by omega) (by omega) (by omega)
  rw [hi] at HI
  clear hi hr
  unfold Ob.none at *
  go_enter Try.func74, Try.ntmps74
  go_wp2_with fail
  refine (HI _ (h.alloc _)).mono ?_; rintro e w1 ⟨rfl, rfl⟩
  go_wp2_with fail
  refine (HR _ (h.alloc _)).mono ?_; rintro e w1 ⟨rfl, ht⟩
  obtain ⟨d0, d1, d2, d3, df, dl⟩ := still4 ht
  have HT := Lib.hid ht; clear ht
  go_wp2_with fail
  refine bodyPost_ret (v := .tuple #[.agg #[.int .i64 0, .int .i64 0, .int .i64 0, .int .i64 0], .bool false]) (by simp [results, Try.results74, go_sem, d0, d1, d2, d3]) rfl ⟨rfl, ?_⟩
  exact own_set (own_set (own_set (own_set (((Turn.refl _ _).alloc _).trans (Still.turn HT.out)) _ _ (Nat.le_refl _)) _ _ (Nat.le_refl _)) _ _ (Nat.le_refl _)) _ _ (Nat.le_refl _)
end Go.Proofs.Yteanlncnhncpbaa
