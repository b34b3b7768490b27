/- How long an image's bytes are. No program in sight. -/
import Derived.Test.YtjeehbcbflofpaaImg
namespace Go.Proofs.Ytjeehbcbflofpaa
set_option linter.unusedVariables false
open Go.ChangeShapes Go.WideShapes Go.ChangeAt Go.RowKit
theorem Lies.all {α : Type} {B k : Nat} {w : World} {P : List Value → α → Prop} {a : Option Addr} {n : Nat} {xs : List α} (h : Lies B w k P a n xs) (x : α) (hx : x ∈ xs) : ∃ cs, P cs x := by
  obtain ⟨i, hi, rfl⟩ := List.getElem_of_mem hx
  obtain ⟨b, off, _, _, hh⟩ := h.at_ (by have := h.len; omega)
  obtain ⟨cs, _, h2, _⟩ := hh i _ (List.getElem?_eq_getElem hi)
  exact ⟨cs, h2⟩
namespace M
theorem num_len {n : Int} (h : In64 n) : (num n).length ≤ 10 := enc_len10 (zig_lt h.1 h.2)
theorem num_nat {n : Nat} (h : n ≤ maxLen) : In64 (n : Int) := by unfold maxLen at h; unfold In64; omega
theorem flat_len {α : Type} (f : α → List Int) (g : α → Nat) : ∀ (l : List α), (∀ x ∈ l, (f x).length ≤ g x) → (l.flatMap f).length ≤ (l.map g).sum
  | [], _ => by simp
  | x :: l, h => by
    have h1 := h x (by simp)
    have h2 := flat_len f g l (fun y hy => h y (by simp [hy]))
    simp only [List.flatMap_cons, List.length_append, List.map_cons, List.sum_cons]
    omega
theorem many_len {α : Type} (f : α → List Int) (g : α → Nat) (l : List α) (hl : l.length ≤ maxLen) (h : ∀ x ∈ l, (f x).length ≤ g x) : (many f l).length ≤ 10 + (l.map g).sum := by
  unfold many
  have h1 := num_len (num_nat hl)
  have h2 := flat_len f g l h
  simp only [List.length_append]
  omega
theorem sum_lin {α : Type} (f g : α → Nat) (a b : Nat) : ∀ (l : List α), (∀ x ∈ l, f x ≤ a + b * g x) → (l.map f).sum ≤ a * l.length + b * (l.map g).sum
  | [], _ => by simp
  | x :: l, h => by
    have h1 := h x (by simp)
    have h2 := sum_lin f g a b l (fun y hy => h y (by simp [hy]))
    simp only [List.map_cons, List.sum_cons, List.length_cons, Nat.mul_add]
    omega
theorem nums_len (l : List Int) (hl : l.length ≤ maxLen) (h : ∀ x ∈ l, In64 x) : (nums l).length ≤ 10 + 10 * l.length := by
  have := many_len num (fun _ => 10) l hl (fun x hx => num_len (h x hx))
  unfold nums
  have h2 : (l.map fun _ => 10).sum = 10 * l.length := by
    clear this h hl
    induction l with
    | nil => rfl
    | cons x l ih => simp only [List.map_cons, List.sum_cons, List.length_cons, ih]; omega
  omega
theorem text_len (s : ByteArray) (h : s.size ≤ maxLen) : (text s).length ≤ 10 + s.size := by
  unfold text
  have := num_len (num_nat h)
  rw [List.length_append, chars_len]
  omega
end M
theorem Ints.in64 {B : Nat} {w : World} {a : Option Addr} {n : Nat} {xs : List Int} (h : Ints B w a n xs) (x : Int) (hx : x ∈ xs) : In64 x := by
  obtain ⟨cs, h⟩ := h.all x hx
  exact h.2
theorem Ints.nums_len {B : Nat} {w : World} {a : Option Addr} {n : Nat} {xs : List Int} (h : Ints B w a n xs) (hn : n ≤ maxLen) : (M.nums xs).length ≤ 10 + 10 * xs.length :=
  M.nums_len xs (by have := h.len; omega) h.in64
theorem TyIs.len {B : Nat} {w : World} {cs : List Value} {x : M.Ty} (h : TyIs B w cs x) : (M.bTy x).length ≤ 30 + 10 * M.wTy x := by
  obtain ⟨a, n, c, rfl, h2, h3⟩ := h
  have h4 := h3.nums_len h2
  have h5 := M.num_len (n := if x.imm then 1 else 0) (by split <;> constructor <;> decide)
  unfold M.bTy M.wTy
  rw [List.length_append]
  omega
theorem ShIs.len {B : Nat} {w : World} {cs : List Value} {x : M.Sh} (h : ShIs B w cs x) : (M.bSh x).length ≤ 30 + 10 * M.wSh x := by
  obtain ⟨a, n, c, rfl, h2, h3, h4, h5⟩ := h
  have h6 := h5.nums_len h2
  have h7 := M.num_len h3
  have h8 := M.text_len _ h4
  unfold M.bSh M.wSh
  rw [List.length_append, List.length_append]
  omega
theorem uses_len (op : Int) : (M.uses op).data.toList.length ≤ 6 := by
  unfold M.uses
  split <;> decide
theorem InsIs.field_len {B : Nat} {w : World} {cs : List Value} {x : M.Ins} (h : InsIs B w cs x) (c : UInt8) : (M.field x c).length ≤ 10 + 10 * M.wIns x := by
  obtain ⟨la, ln, lc, ma, mn, mc, va, vn, vc, rfl, h2, h3, h4, ⟨h5, h6, h7, h8, h9, h10⟩, h11, h12, h13⟩ := h
  have k1 := M.num_len h6
  have k2 := M.num_len h7
  have k3 := M.num_len h8
  have k4 := M.num_len h9
  have k5 := M.num_len h10
  have k6 := h11.nums_len h2
  have k7 := h12.nums_len h3
  have k8 := h13.nums_len h4
  unfold M.field M.wIns
  repeat' split
  all_goals omega
theorem InsIs.len {B : Nat} {w : World} {cs : List Value} {x : M.Ins} (h : InsIs B w cs x) : (M.bIns x).length ≤ 70 + 60 * M.wIns x := by
  have h1 := M.flat_len (M.field x) (fun _ => 10 + 10 * M.wIns x) (M.uses x.op).data.toList (fun c _ => h.field_len c)
  have h2 := uses_len x.op
  have h3 : ∀ (l : List UInt8) (k : Nat), (l.map fun _ => k).sum = k * l.length := by
    intro l k
    induction l with
    | nil => simp
    | cons a l ih => simp only [List.map_cons, List.sum_cons, List.length_cons, ih, Nat.mul_add]; omega
  rw [h3] at h1
  obtain ⟨la, ln, lc, ma, mn, mc, va, vn, vc, _, _, _, _, ⟨h5, _⟩, _⟩ := h
  have h4 := M.num_len h5
  unfold M.bIns
  rw [List.length_append]
  have := Nat.mul_le_mul_left (10 + 10 * M.wIns x) h2
  omega
theorem BkIs.len {B : Nat} {w : World} {cs : List Value} {x : M.Bk} (h : BkIs B w cs x) : (M.bBk x).length ≤ 30 + 80 * M.wBk x := by
  obtain ⟨ia, inn, ic, ca, cn, cc, rfl, h2, h3, h4, h5⟩ := h
  have k1 := h4.nums_len h2
  have k2 := M.many_len M.bIns (fun x => (M.bIns x).length) x.code (by have := h5.len; omega) (fun _ _ => Nat.le_refl _)
  have k3 := M.sum_lin (fun x => (M.bIns x).length) M.wIns 70 60 x.code (fun y hy => by
    obtain ⟨cs, h⟩ := h5.all y hy
    exact h.len)
  unfold M.bBk M.wBk
  rw [List.length_append]
  omega
theorem FnIs.len {B : Nat} {w : World} {cs : List Value} {x : M.Fn} (h : FnIs B w cs x) : (M.bFn x).length ≤ 60 + 120 * M.wFn x := by
  obtain ⟨pa, pn, pc, ba, bn, bc, rfl, h2, h3, h4, h5, h6, h7⟩ := h
  have k1 := h6.nums_len h2
  have k2 := M.many_len M.bBk (fun x => (M.bBk x).length) x.blocks (by have := h7.len; omega) (fun _ _ => Nat.le_refl _)
  have k3 := M.sum_lin (fun x => (M.bBk x).length) M.wBk 30 80 x.blocks (fun y hy => by
    obtain ⟨cs, h⟩ := h7.all y hy
    exact h.len)
  have k4 := M.num_len h4
  have k5 := M.num_len h5
  unfold M.bFn M.wFn
  rw [List.length_append, List.length_append, List.length_append]
  omega
theorem ImgIs.len {B : Nat} {w : World} {v : ImgV} {m : M.Img} (h : ImgIs B w v m) : (M.bImg m).length ≤ 100 + 200 * M.wImg m := by
  obtain ⟨l1, l2, l3, l4, l5⟩ := h.le
  have t1 := M.many_len M.bTy (fun x => (M.bTy x).length) m.types (by have := h.types.len; omega) (fun _ _ => Nat.le_refl _)
  have t2 := M.sum_lin (fun x => (M.bTy x).length) M.wTy 30 10 m.types (fun y hy => by obtain ⟨cs, h⟩ := h.types.all y hy; exact h.len)
  have s1 := M.many_len M.bSh (fun x => (M.bSh x).length) m.shapes (by have := h.shapes.len; omega) (fun _ _ => Nat.le_refl _)
  have s2 := M.sum_lin (fun x => (M.bSh x).length) M.wSh 30 10 m.shapes (fun y hy => by obtain ⟨cs, h⟩ := h.shapes.all y hy; exact h.len)
  have x1 := M.many_len M.text (fun x => (M.text x).length) m.strings (by have := h.strings.len; omega) (fun _ _ => Nat.le_refl _)
  have x2 := M.sum_lin (fun x => (M.text x).length) ByteArray.size 10 1 m.strings (fun y hy => by obtain ⟨cs, _, h⟩ := h.strings.all y hy; have := M.text_len _ h; omega)
  have n1 := M.many_len M.text (fun x => (M.text x).length) m.names (by have := h.names.len; omega) (fun _ _ => Nat.le_refl _)
  have n2 := M.sum_lin (fun x => (M.text x).length) ByteArray.size 10 1 m.names (fun y hy => by obtain ⟨cs, _, h⟩ := h.names.all y hy; have := M.text_len _ h; omega)
  have f1 := M.many_len M.bFn (fun x => (M.bFn x).length) m.funcs (by have := h.funcs.len; omega) (fun _ _ => Nat.le_refl _)
  have f2 := M.sum_lin (fun x => (M.bFn x).length) M.wFn 60 120 m.funcs (fun y hy => by obtain ⟨cs, h⟩ := h.funcs.all y hy; exact h.len)
  have m1 := M.num_len h.in_main
  have e1 := M.num_len h.in_exn
  unfold M.bImg M.wImg
  simp only [List.length_append]
  omega
end Go.Proofs.Ytjeehbcbflofpaa
