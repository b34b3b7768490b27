/- The contract of layer 2's Text where bytes stand. -/
import Derived.Test.YteanlncnhncpbaaBoth
import Derived.Test.YteanlncnhncpbaaMakes
import Derived.Laws.BytesArg
namespace Go.Proofs.Yteanlncnhncpbaa
set_option linter.unusedVariables false
open Go.ChangeShapes Go.WideShapes Go.ChangeAt Go.RowKit
open M (W)

theorem makeB (n : Nat) (h : n ≤ 65536) : ∀ W, (Instr.makeSlice 52 (.int .i64 (n : Int)) (.int .i64 (n : Int))).run Try.prog W = .ok (.slice (some ⟨W.heap.size, 0, none⟩) n n) (W.alloc (.cells (madeCells #[.int .u8 0] n) 5)) :=
  fun W => run_make_row' _ _ _ 1 Try.underlying52 infoB rfl .i64 .i64 n (by omega) (by omega) W
/-- A row of bytes of the call's own, as a string. -/
theorem own_string {w : World} {base : Nat} {v : Value} {n : Nat} {xs : List Int} (h : w.ownsRow base 5 1 v n (xs.map (Value.int .u8))) :
    (convert 52 9 v).run Try.prog w = .ok (.string (strOfNums xs)) w := by
  obtain ⟨hl, h⟩ := h
  rcases h with ⟨rfl, rfl⟩ | ⟨g, cap, cur, rfl, hb, hg, h1, h2, h3, h4⟩
  · have : xs = [] := by simpa using hl
    subst this
    exact run_convert_bytes_nil w 52 5 Try.underlying52 Try.underlying5 0 0 9 Try.underlying9
  · refine run_convert_bytes_arg w 52 5 Try.underlying52 Try.underlying5 g 0 n cap xs (by simpa using hl) ?_ 9 Try.underlying9
    intro i hi
    have hn : xs.length = n := by simpa using hl
    have hx : (cur.toList.take (n * 1))[i]? = some (.int .u8 (xs.getD i 0)) := by
      rw [h4]; simp [List.getD, List.getElem?_eq_getElem (show i < xs.length by omega)]
    rw [List.getElem?_take_of_lt (by omega)] at hx
    rw [Array.getElem?_toList] at hx
    simp only [World.cell?, hg, Nat.zero_add]
    simpa using hx
/-- The bytes of an object, out of the heap's words. -/
def St.bytes (s : St) (k n : Nat) : List Nat := (List.range n).map fun i => M.byteOf (s.ws (k + 1 + i / 8)) (i % 8)
def M.str (l : List Nat) : ByteArray := strOfNums (l.map fun v : Nat => (v : Int))
theorem own_str {w : World} {B : Nat} {v : Value} {n : Nat} {l : List Nat} (h : w.ownsRow B 5 1 v n (l.map fun v : Nat => Value.int .u8 (v : Int))) : (convert 52 9 v).run Try.prog w = .ok (.string (M.str l)) w := by
  have h' : w.ownsRow B 5 1 v n ((l.map fun v : Nat => (v : Int)).map (Value.int .u8)) := by
    rw [List.map_map]; exact h
  exact own_string h'
theorem row_own {w : World} {g n B : Nat} {l : List Nat} (h : w.rowIs g 5 n (fun i => .int .u8 (l.getD i 0 : Nat))) (hl : l.length = n) (hB : B ≤ g) (hn : n ≤ maxLen) : w.ownsRow B 5 1 (.slice (some ⟨g, 0, none⟩) n n) n (l.map fun v : Nat => Value.int .u8 (v : Int)) := by
  obtain ⟨c, hb, hs, hc⟩ := h
  refine ⟨by simp [hl], .inr ⟨g, n, c, rfl, hB, hb, Nat.le_refl _, hn, by rw [hs]; omega, ?_⟩⟩
  apply List.ext_getElem?
  intro i
  rw [List.getElem?_take, List.getElem?_map]
  by_cases hi : i < n
  · rw [if_pos (by omega)]
    have := hc i hi
    rw [Array.getElem?_toList, this]
    show some (Value.int .u8 ((l.getD i 0 : Nat) : Int)) = _
    rw [List.getD_eq_getElem?_getD]
    have hil : i < l.length := by omega
    simp [List.getElem?_eq_getElem hil]
  · rw [if_neg (by omega)]
    simp [List.getElem?_eq_none (show l.length ≤ i by omega)]
set_option maxRecDepth 100000 in
set_option maxHeartbeats 4000000 in
theorem text_ok (s : St) (k : Nat) (o : Ob) (n : Nat) (w : World) (h : HpIs w s) (ho : ObAt s k o) (hk : o.kind = 3) (hn : o.n = n) :
    Calls Try.prog 73 #[s.ptr, .int .i64 k] w fun e w' => e = .returned (.tuple #[.string (M.str (s.bytes k n)), .int .i64 0]) ∧ Still w w' := by
  have HO := object_at h ho
  obtain ⟨ha, hb, hc⟩ := ho.need_eq
  have hin := fun (i : Nat) (hi : i < n) => ho.in_b hk (i := i) (by omega) h.n_le
  have hnn := h.n_le
  unfold Ob.val at HO
  obtain ⟨osh, okind, on, oneed⟩ := o
  simp only at *
  subst hk hn
  have hn2 : n ≤ 65536 := by omega
  have HH := Lib.hid h
  have HIN := Lib.hid hin
  have hmk := makeB n hn2
  clear h ho hb hc hin ha
  go_enter Try.func73, Try.ntmps73
  go_wp2_with fail
  refine HO.mono ?_; rintro e w1 ⟨rfl, ht⟩
  have HT := Lib.hid ht; clear ht
  go_wp2_with fail
  clear hmk
  go_loopw [28] (fun v wr => ∃ j : Nat, v = .int .i64 j ∧ j ≤ n ∧ HpIs wr s ∧ wr.rowIs (w1.heap.size + 1) 5 n (fun i => .int .u8 (if i < j then M.byteOf (s.ws (k + 1 + i / 8)) (i % 8) else 0 : Nat)) ∧ Still w wr) (fun v _ => n - (intOf v).toNat)
  case atStart =>
    refine ⟨0, rfl, by omega, (((HH.out.still HT.out).alloc _).alloc _), ?_, (HT.out.alloc _).alloc _⟩
    have := World.rowIs_made (w1.alloc (.cells #[.int .i64 osh, .int .i64 3, .int .i64 n, .int .i64 oneed] 123)) (.int .u8 0) n 5
    simp only [World.size_alloc] at this
    exact this.congr fun i _ => by simp
  case round =>
    obtain ⟨j, rfl, hj, hp, hrow, ht⟩ := hrel
    have hg := hp.blk.lt
    have c0 := hp.c0
    by_cases hlt : j < n
    · have hp8 := HIN.out j hlt
      obtain ⟨p, hpe⟩ : ∃ p, k + 1 + j / 8 = p := ⟨_, rfl⟩
      have e1 : (k : Int) + 1 + (j : Int) / 8 = (p : Int) := by omega
      rw [hpe] at hp8
      have cw := hp.cw p hp8
      obtain ⟨q, hq⟩ : ∃ q : Nat, (j : Int) % 8 * 8 = q := ⟨j % 8 * 8, by omega⟩
      have hqj : q = j % 8 * 8 := by omega
      have q0 : q < 64 := by omega
      have b0 : 0 ≤ (j : Int) / 8 := by omega
      have b1 : (j : Int) / 8 ≤ 8192 := by omega
      have m0 : 0 ≤ (j : Int) % 8 := by omega
      have m1 : (j : Int) % 8 ≤ 7 := by omega
      have cj := hrow.cell hlt
      have cf := hrow.frozen j
      simp only [Nat.lt_irrefl, if_false] at cj
      have HV := Lib.hid (byte_fin (s.ws p) q (j % 8) hqj)
      have HPE := Lib.hid hpe
      have HP := Lib.hid hp
      have HROW := Lib.hid hrow
      have HTT := Lib.hid ht
      have HW1 := Lib.hid HT.out.size
      clear hp hrow ht hpe hqj
      go_wp2_with fail
      go_roundw
      case rel =>
        have hne : ¬ (s.g = w1.heap.size + 1) ∧ ¬ (s.gw = w1.heap.size + 1) ∧ ¬ (s.gl = w1.heap.size + 1) := by
          have h1 := HP.out.blk
          exact ⟨HpIs.rowIs_ne h1 HROW.out (by decide), HpIs.rowIs_ne HP.out.words HROW.out (by decide), HpIs.rowIs_ne HP.out.lays HROW.out (by decide)⟩
        refine ⟨j + 1, by go_num, by omega, ?_, ?_, Turn.setCell (S := fun _ => False) HTT.out (fun e => by have := HW1.out; simp at e; omega) _⟩
        · exact HP.out.keep (S := fun b => b = w1.heap.size + 1) ((Turn.refl (fun b => b = w1.heap.size + 1) wr).setCell (fun _ => rfl) _) hne.1 hne.2.1 hne.2.2
        · refine (HROW.out.set j _).congr fun i _ => ?_
          by_cases e : i = j
          · subst e
            rw [if_pos rfl, if_pos (by omega), HPE.out, HV.out]
          · rw [if_neg e]
            by_cases e2 : i < j
            · rw [if_pos e2, if_pos (by omega)]
            · rw [if_neg e2, if_neg (by omega)]
      case measure => simp [intOf]; omega
    · obtain rfl : j = n := by omega
      have hl : (s.bytes k j).length = j := by simp [St.bytes]
      have hrow2 : wr.rowIs (w1.heap.size + 1) 5 j (fun i => .int .u8 ((s.bytes k j).getD i 0 : Nat)) := hrow.congr fun i hi => by
        rw [if_pos hi, List.getD_eq_getElem?_getD]
        unfold St.bytes
        rw [List.getElem?_map, List.getElem?_range hi]; rfl
      have hconv := own_str (row_own hrow2 hl (Nat.zero_le _) (by unfold maxLen; omega))
      have HTT := Lib.hid ht
      clear hp hrow ht hrow2 hl hg c0
      go_wp2_with fail
      go_ret2
      exact ⟨rfl, HTT.out⟩
end Go.Proofs.Yteanlncnhncpbaa
