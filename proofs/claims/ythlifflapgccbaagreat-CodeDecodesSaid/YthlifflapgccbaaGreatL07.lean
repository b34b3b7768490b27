/- Lemmas, put together: Img ImgLen Later. -/
import Derived.Test.YthlifflapgccbaaGreatL02
import Derived.Test.YthlifflapgccbaaGreatL05
import Derived.Laws.BytesArg
/- Images as lists: their parts, how many there may be, their bytes; where they lie. -/
namespace Go.Proofs.YthlifflapgccbaaGreat
set_option linter.unusedVariables false
open Go.ChangeShapes Go.WideShapes Go.ChangeAt Go.RowKit
namespace M
structure Ty where
  imm : Bool
  shapes : List Int
structure Sh where
  kind : Int
  fields : List Int
  name : ByteArray
structure Ins where
  op : Int
  d : Int
  a : Int
  b : Int
  c : Int
  n : Int
  l : List Int
  m : List Int
  v : List Int
structure Bk where
  inn : List Int
  code : List Ins
structure Fn where
  params : List Int
  result : Int
  slots : Int
  blocks : List Bk
structure Img where
  types : List Ty
  shapes : List Sh
  strings : List ByteArray
  names : List ByteArray
  funcs : List Fn
  main : Int
  exn : Int
/-- The bytes of a text as numbers. -/
def chars (s : ByteArray) : List Int := s.data.toList.map fun c => (c.toNat : Int)
theorem chars_len (s : ByteArray) : (chars s).length = s.size := by
  unfold chars
  rw [List.length_map, Array.length_toList]
  rfl
/-- A number; many things; numbers; a text. -/
def num (n : Int) : List Int := enc (zig n)
def many {α : Type} (f : α → List Int) (l : List α) : List Int := num l.length ++ l.flatMap f
def nums (l : List Int) : List Int := many num l
def text (s : ByteArray) : List Int := num s.size ++ chars s
def bTy (t : Ty) : List Int := num (if t.imm then 1 else 0) ++ nums t.shapes
def bSh (s : Sh) : List Int := num s.kind ++ nums s.fields ++ text s.name
def field (x : Ins) (c : UInt8) : List Int :=
  if c = 68 then num x.d else if c = 65 then num x.a else if c = 66 then num x.b else if c = 67 then num x.c else if c = 78 then num x.n
  else if c = 76 then nums x.l else if c = 77 then nums x.m else nums x.v
def bIns (x : Ins) : List Int := num x.op ++ (uses x.op).data.toList.flatMap (field x)
def bBk (b : Bk) : List Int := nums b.inn ++ many bIns b.code
def bFn (f : Fn) : List Int := nums f.params ++ num f.result ++ num f.slots ++ many bBk f.blocks
def bImg (m : Img) : List Int := many bTy m.types ++ many bSh m.shapes ++ many text m.strings ++ many text m.names ++ many bFn m.funcs ++ num m.main ++ num m.exn
/-- How many instructions. -/
def size (m : Img) : Nat := (m.funcs.map fun f => (f.blocks.map fun b => b.code.length).sum).sum
/-- What an image weighs, as the law counts it: a list at a time. -/
def wTy (t : Ty) : Nat := t.shapes.length
def wSh (s : Sh) : Nat := s.fields.length + s.name.size
def wIns (x : Ins) : Nat := x.l.length + x.m.length + x.v.length
def wBk (b : Bk) : Nat := b.inn.length + b.code.length + (b.code.map wIns).sum
def wFn (f : Fn) : Nat := f.params.length + f.blocks.length + (f.blocks.map wBk).sum
def wImg (m : Img) : Nat := m.types.length + m.shapes.length + m.strings.length + m.names.length + m.funcs.length + (m.types.map wTy).sum + (m.shapes.map wSh).sum + (m.strings.map ByteArray.size).sum + (m.names.map ByteArray.size).sum + (m.funcs.map wFn).sum
/-- What is too great. -/
def bigTy (t : Ty) : Bool := decide (512 < t.shapes.length)
def bigSh (s : Sh) : Bool := decide (200 < s.fields.length) || decide (16384 < s.name.size)
def bigTx (s : ByteArray) : Bool := decide (16384 < s.size)
def bigIns (x : Ins) : Bool := decide (1024 < x.l.length) || decide (1024 < x.m.length) || decide (200 < x.v.length)
def bigBk (b : Bk) : Bool := decide (200 < b.inn.length)
def bigFn (f : Fn) : Bool := decide (200 < f.slots) || decide (200 < f.params.length) || decide (2000 < f.blocks.length) || f.blocks.any bigBk
def anyIns (p : Ins → Bool) (m : Img) : Bool := m.funcs.any fun f => f.blocks.any fun b => b.code.any p
def big (m : Img) : Bool :=
  decide (1024 < m.types.length) || decide (512 < m.shapes.length) || decide (256 < m.strings.length) || decide (256 < m.names.length) || decide (1024 < m.funcs.length) ||
  m.types.any bigTy || m.shapes.any bigSh || m.strings.any bigTx || m.names.any bigTx || m.funcs.any bigFn || decide (20000 < size m) || anyIns bigIns m
end M

def In64 (n : Int) : Prop := -9223372036854775808 ≤ n ∧ n ≤ 9223372036854775807
/-- n things of k cells each lie from a on, in a block below B: each as P says of its cells. -/
structure Lies {α : Type} (B : Nat) (w : World) (k : Nat) (P : List Value → α → Prop) (a : Option Addr) (n : Nat) (xs : List α) : Prop where
  len : xs.length = n
  at_ : 0 < n → ∃ b off, a = some ⟨b, off, none⟩ ∧ b < B ∧ ∀ i x, xs[i]? = some x → ∃ cs : List Value, cs.length = k ∧ P cs x ∧ ∀ j, j < k → w.cell? ⟨b, off + i * k + j, none⟩ = cs[j]?
def IntIs (cs : List Value) (z : Int) : Prop := cs = [.int .i64 z] ∧ In64 z
def TxIs (cs : List Value) (s : ByteArray) : Prop := cs = [.string s] ∧ s.size ≤ maxLen
def Ints (B : Nat) (w : World) (a : Option Addr) (n : Nat) (xs : List Int) : Prop := Lies B w 1 IntIs a n xs
def Txts (B : Nat) (w : World) (a : Option Addr) (n : Nat) (xs : List ByteArray) : Prop := Lies B w 1 TxIs a n xs
def TyIs (B : Nat) (w : World) (cs : List Value) (t : M.Ty) : Prop := ∃ a n c, cs = [.bool t.imm, .slice a n c] ∧ n ≤ maxLen ∧ Ints B w a n t.shapes
def ShIs (B : Nat) (w : World) (cs : List Value) (s : M.Sh) : Prop := ∃ a n c, cs = [.int .i64 s.kind, .slice a n c, .string s.name] ∧ n ≤ maxLen ∧ In64 s.kind ∧ s.name.size ≤ maxLen ∧ Ints B w a n s.fields
def InsIs (B : Nat) (w : World) (cs : List Value) (x : M.Ins) : Prop := ∃ la ln lc ma mn mc va vn vc, cs = [.int .i64 x.op, .int .i64 x.d, .int .i64 x.a, .int .i64 x.b, .int .i64 x.c, .int .i64 x.n, .slice la ln lc, .slice ma mn mc, .slice va vn vc] ∧
  ln ≤ maxLen ∧ mn ≤ maxLen ∧ vn ≤ maxLen ∧ (In64 x.op ∧ In64 x.d ∧ In64 x.a ∧ In64 x.b ∧ In64 x.c ∧ In64 x.n) ∧ Ints B w la ln x.l ∧ Ints B w ma mn x.m ∧ Ints B w va vn x.v
def BkIs (B : Nat) (w : World) (cs : List Value) (x : M.Bk) : Prop := ∃ ia inn ic ca cn cc, cs = [.slice ia inn ic, .slice ca cn cc] ∧ inn ≤ maxLen ∧ cn ≤ maxLen ∧ Ints B w ia inn x.inn ∧ Lies B w 9 (InsIs B w) ca cn x.code
def FnIs (B : Nat) (w : World) (cs : List Value) (x : M.Fn) : Prop := ∃ pa pn pc ba bn bc, cs = [.slice pa pn pc, .int .i64 x.result, .int .i64 x.slots, .slice ba bn bc] ∧ pn ≤ maxLen ∧ bn ≤ maxLen ∧ In64 x.result ∧ In64 x.slots ∧ Ints B w pa pn x.params ∧ Lies B w 2 (BkIs B w) ba bn x.blocks
structure ImgV where
  ta : Option Addr
  tn : Nat
  tc : Nat
  sa : Option Addr
  sn : Nat
  sc : Nat
  xa : Option Addr
  xn : Nat
  xc : Nat
  na : Option Addr
  nn : Nat
  nc : Nat
  fa : Option Addr
  fn : Nat
  fc : Nat
  main : Int
  exn : Int
abbrev ImgV.cells (v : ImgV) : Array Value := #[.slice v.ta v.tn v.tc, .slice v.sa v.sn v.sc, .slice v.xa v.xn v.xc, .slice v.na v.nn v.nc, .slice v.fa v.fn v.fc, .int .i64 v.main, .int .i64 v.exn]
structure ImgIs (B : Nat) (w : World) (v : ImgV) (m : M.Img) : Prop where
  main : v.main = m.main
  exn : v.exn = m.exn
  in_main : In64 m.main
  in_exn : In64 m.exn
  le : v.tn ≤ maxLen ∧ v.sn ≤ maxLen ∧ v.xn ≤ maxLen ∧ v.nn ≤ maxLen ∧ v.fn ≤ maxLen
  types : Lies B w 2 (TyIs B w) v.ta v.tn m.types
  shapes : Lies B w 3 (ShIs B w) v.sa v.sn m.shapes
  strings : Txts B w v.xa v.xn m.strings
  names : Txts B w v.na v.nn m.names
  funcs : Lies B w 4 (FnIs B w) v.fa v.fn m.funcs

theorem Lies.keep {α : Type} {B k : Nat} {w w' : World} {P Q : List Value → α → Prop} {a : Option Addr} {n : Nat} {xs : List α} (h : Lies B w k P a n xs) (hb : Below B w w') (hl : B ≤ w.heap.size) (hq : ∀ cs x, x ∈ xs → P cs x → Q cs x) : Lies B w' k Q a n xs :=
  ⟨h.len, fun hn => by
    obtain ⟨b, off, ha, hB, hx⟩ := h.at_ hn
    refine ⟨b, off, ha, hB, fun i x hi => ?_⟩
    obtain ⟨cs, h1, h2, h3⟩ := hx i x hi
    exact ⟨cs, h1, hq cs x (List.mem_of_getElem? hi) h2, fun j hj => by rw [← h3 j hj]; exact World.cell?_of_block (w := w) (hb.block b hB)⟩⟩
theorem Ints.keep {B : Nat} {w w' : World} {a : Option Addr} {n : Nat} {xs : List Int} (h : Ints B w a n xs) (hb : Below B w w') (hl : B ≤ w.heap.size) : Ints B w' a n xs := Lies.keep h hb hl fun _ _ _ h => h
theorem Txts.keep {B : Nat} {w w' : World} {a : Option Addr} {n : Nat} {xs : List ByteArray} (h : Txts B w a n xs) (hb : Below B w w') (hl : B ≤ w.heap.size) : Txts B w' a n xs := Lies.keep h hb hl fun _ _ _ h => h
theorem TyIs.keep {B : Nat} {w w' : World} {cs : List Value} {x : M.Ty} (h : TyIs B w cs x) (hb : Below B w w') (hl : B ≤ w.heap.size) : TyIs B w' cs x := by
  obtain ⟨a, n, c, h1, h2, h3⟩ := h
  exact ⟨a, n, c, h1, h2, h3.keep hb hl⟩
theorem ShIs.keep {B : Nat} {w w' : World} {cs : List Value} {x : M.Sh} (h : ShIs B w cs x) (hb : Below B w w') (hl : B ≤ w.heap.size) : ShIs B w' cs x := by
  obtain ⟨a, n, c, h1, h2, h3, h4, h5⟩ := h
  exact ⟨a, n, c, h1, h2, h3, h4, h5.keep hb hl⟩
theorem InsIs.keep {B : Nat} {w w' : World} {cs : List Value} {x : M.Ins} (h : InsIs B w cs x) (hb : Below B w w') (hl : B ≤ w.heap.size) : InsIs B w' cs x := by
  obtain ⟨la, ln, lc, ma, mn, mc, va, vn, vc, h1, h2, h3, h4, h5, h6, h7, h8⟩ := h
  exact ⟨la, ln, lc, ma, mn, mc, va, vn, vc, h1, h2, h3, h4, h5, h6.keep hb hl, h7.keep hb hl, h8.keep hb hl⟩
theorem BkIs.keep {B : Nat} {w w' : World} {cs : List Value} {x : M.Bk} (h : BkIs B w cs x) (hb : Below B w w') (hl : B ≤ w.heap.size) : BkIs B w' cs x := by
  obtain ⟨ia, inn, ic, ca, cn, cc, h1, h2, h3, h4, h5⟩ := h
  exact ⟨ia, inn, ic, ca, cn, cc, h1, h2, h3, h4.keep hb hl, h5.keep hb hl fun _ _ _ h => h.keep hb hl⟩
theorem FnIs.keep {B : Nat} {w w' : World} {cs : List Value} {x : M.Fn} (h : FnIs B w cs x) (hb : Below B w w') (hl : B ≤ w.heap.size) : FnIs B w' cs x := by
  obtain ⟨pa, pn, pc, ba, bn, bc, h1, h2, h3, h4, h5, h6, h7⟩ := h
  exact ⟨pa, pn, pc, ba, bn, bc, h1, h2, h3, h4, h5, h6.keep hb hl, h7.keep hb hl fun _ _ _ h => h.keep hb hl⟩
theorem ImgIs.keep {B : Nat} {w w' : World} {v : ImgV} {m : M.Img} (h : ImgIs B w v m) (hb : Below B w w') (hl : B ≤ w.heap.size) : ImgIs B w' v m :=
  ⟨h.main, h.exn, h.in_main, h.in_exn, h.le, h.types.keep hb hl fun _ _ _ h => h.keep hb hl, h.shapes.keep hb hl fun _ _ _ h => h.keep hb hl, h.strings.keep hb hl, h.names.keep hb hl, h.funcs.keep hb hl fun _ _ _ h => h.keep hb hl⟩
/-- What lies at i. -/
theorem Lies.here {α : Type} {B k : Nat} {w : World} {P : List Value → α → Prop} {a : Option Addr} {n : Nat} {xs : List α} (h : Lies B w k P a n xs) {i : Nat} (hi : i < n) :
    ∃ b off x cs, a = some ⟨b, off, none⟩ ∧ b < B ∧ xs[i]? = some x ∧ cs.length = k ∧ P cs x ∧ ∀ j, j < k → w.cell? ⟨b, off + i * k + j, none⟩ = cs[j]? := by
  obtain ⟨b, off, ha, hB, hx⟩ := h.at_ (by omega)
  have hil : i < xs.length := by rw [h.len]; exact hi
  obtain ⟨cs, h1, h2, h3⟩ := hx i _ (List.getElem?_eq_getElem hil)
  exact ⟨b, off, _, cs, ha, hB, List.getElem?_eq_getElem hil, h1, h2, h3⟩
theorem cells1 {α : Type} : ∀ (l : List α), l.length = 1 → ∃ a, l = [a]
  | [a], _ => ⟨a, rfl⟩
theorem cells2 {α : Type} : ∀ (l : List α), l.length = 2 → ∃ a b, l = [a, b]
  | [a, b], _ => ⟨a, b, rfl⟩
theorem cells3 {α : Type} : ∀ (l : List α), l.length = 3 → ∃ a b c, l = [a, b, c]
  | [a, b, c], _ => ⟨a, b, c, rfl⟩
theorem cells4 {α : Type} : ∀ (l : List α), l.length = 4 → ∃ a b c d, l = [a, b, c, d]
  | [a, b, c, d], _ => ⟨a, b, c, d, rfl⟩
theorem cells7 {α : Type} : ∀ (l : List α), l.length = 7 → ∃ a b c d e f g, l = [a, b, c, d, e, f, g]
  | [a, b, c, d, e, f, g], _ => ⟨a, b, c, d, e, f, g, rfl⟩
theorem cells9 {α : Type} : ∀ (l : List α), l.length = 9 → ∃ a b c d e f g h i, l = [a, b, c, d, e, f, g, h, i]
  | [a, b, c, d, e, f, g, h, i], _ => ⟨a, b, c, d, e, f, g, h, i, rfl⟩
end Go.Proofs.YthlifflapgccbaaGreat
/- How long an image's bytes are. No program in sight. -/
namespace Go.Proofs.YthlifflapgccbaaGreat
set_option linter.unusedVariables false
open Go.ChangeShapes Go.WideShapes Go.ChangeAt Go.RowKit
theorem Lies.all {α : Type} {B k : Nat} {w : World} {P : List Value → α → Prop} {a : Option Addr} {n : Nat} {xs : List α} (h : Lies B w k P a n xs) (x : α) (hx : x ∈ xs) : ∃ cs, P cs x := by
  obtain ⟨i, hi, rfl⟩ := List.getElem_of_mem hx
  obtain ⟨b, off, _, _, hh⟩ := h.at_ (by have := h.len; omega)
  obtain ⟨cs, _, h2, _⟩ := hh i _ (List.getElem?_eq_getElem hi)
  exact ⟨cs, h2⟩
namespace M
theorem num_len {n : Int} (h : In64 n) : (num n).length ≤ 10 := enc_len10 (zig_lt h.1 h.2)
theorem num_nat {n : Nat} (h : n ≤ maxLen) : In64 (n : Int) := by unfold maxLen at h; unfold In64; omega
theorem flat_len {α : Type} (f : α → List Int) (g : α → Nat) : ∀ (l : List α), (∀ x ∈ l, (f x).length ≤ g x) → (l.flatMap f).length ≤ (l.map g).sum
  | [], _ => by simp
  | x :: l, h => by
    have h1 := h x (by simp)
    have h2 := flat_len f g l (fun y hy => h y (by simp [hy]))
    simp only [List.flatMap_cons, List.length_append, List.map_cons, List.sum_cons]
    omega
theorem many_len {α : Type} (f : α → List Int) (g : α → Nat) (l : List α) (hl : l.length ≤ maxLen) (h : ∀ x ∈ l, (f x).length ≤ g x) : (many f l).length ≤ 10 + (l.map g).sum := by
  unfold many
  have h1 := num_len (num_nat hl)
  have h2 := flat_len f g l h
  simp only [List.length_append]
  omega
theorem sum_lin {α : Type} (f g : α → Nat) (a b : Nat) : ∀ (l : List α), (∀ x ∈ l, f x ≤ a + b * g x) → (l.map f).sum ≤ a * l.length + b * (l.map g).sum
  | [], _ => by simp
  | x :: l, h => by
    have h1 := h x (by simp)
    have h2 := sum_lin f g a b l (fun y hy => h y (by simp [hy]))
    simp only [List.map_cons, List.sum_cons, List.length_cons, Nat.mul_add]
    omega
theorem nums_len (l : List Int) (hl : l.length ≤ maxLen) (h : ∀ x ∈ l, In64 x) : (nums l).length ≤ 10 + 10 * l.length := by
  have := many_len num (fun _ => 10) l hl (fun x hx => num_len (h x hx))
  unfold nums
  have h2 : (l.map fun _ => 10).sum = 10 * l.length := by
    clear this h hl
    induction l with
    | nil => rfl
    | cons x l ih => simp only [List.map_cons, List.sum_cons, List.length_cons, ih]; omega
  omega
theorem text_len (s : ByteArray) (h : s.size ≤ maxLen) : (text s).length ≤ 10 + s.size := by
  unfold text
  have := num_len (num_nat h)
  rw [List.length_append, chars_len]
  omega
end M
theorem Ints.in64 {B : Nat} {w : World} {a : Option Addr} {n : Nat} {xs : List Int} (h : Ints B w a n xs) (x : Int) (hx : x ∈ xs) : In64 x := by
  obtain ⟨cs, h⟩ := h.all x hx
  exact h.2
theorem Ints.nums_len {B : Nat} {w : World} {a : Option Addr} {n : Nat} {xs : List Int} (h : Ints B w a n xs) (hn : n ≤ maxLen) : (M.nums xs).length ≤ 10 + 10 * xs.length :=
  M.nums_len xs (by have := h.len; omega) h.in64
theorem TyIs.len {B : Nat} {w : World} {cs : List Value} {x : M.Ty} (h : TyIs B w cs x) : (M.bTy x).length ≤ 30 + 10 * M.wTy x := by
  obtain ⟨a, n, c, rfl, h2, h3⟩ := h
  have h4 := h3.nums_len h2
  have h5 := M.num_len (n := if x.imm then 1 else 0) (by split <;> constructor <;> decide)
  unfold M.bTy M.wTy
  rw [List.length_append]
  omega
theorem ShIs.len {B : Nat} {w : World} {cs : List Value} {x : M.Sh} (h : ShIs B w cs x) : (M.bSh x).length ≤ 30 + 10 * M.wSh x := by
  obtain ⟨a, n, c, rfl, h2, h3, h4, h5⟩ := h
  have h6 := h5.nums_len h2
  have h7 := M.num_len h3
  have h8 := M.text_len _ h4
  unfold M.bSh M.wSh
  rw [List.length_append, List.length_append]
  omega
theorem uses_len (op : Int) : (M.uses op).data.toList.length ≤ 6 := by
  unfold M.uses
  split <;> decide
theorem InsIs.field_len {B : Nat} {w : World} {cs : List Value} {x : M.Ins} (h : InsIs B w cs x) (c : UInt8) : (M.field x c).length ≤ 10 + 10 * M.wIns x := by
  obtain ⟨la, ln, lc, ma, mn, mc, va, vn, vc, rfl, h2, h3, h4, ⟨h5, h6, h7, h8, h9, h10⟩, h11, h12, h13⟩ := h
  have k1 := M.num_len h6
  have k2 := M.num_len h7
  have k3 := M.num_len h8
  have k4 := M.num_len h9
  have k5 := M.num_len h10
  have k6 := h11.nums_len h2
  have k7 := h12.nums_len h3
  have k8 := h13.nums_len h4
  unfold M.field M.wIns
  repeat' split
  all_goals omega
theorem InsIs.len {B : Nat} {w : World} {cs : List Value} {x : M.Ins} (h : InsIs B w cs x) : (M.bIns x).length ≤ 70 + 60 * M.wIns x := by
  have h1 := M.flat_len (M.field x) (fun _ => 10 + 10 * M.wIns x) (M.uses x.op).data.toList (fun c _ => h.field_len c)
  have h2 := uses_len x.op
  have h3 : ∀ (l : List UInt8) (k : Nat), (l.map fun _ => k).sum = k * l.length := by
    intro l k
    induction l with
    | nil => simp
    | cons a l ih => simp only [List.map_cons, List.sum_cons, List.length_cons, ih, Nat.mul_add]; omega
  rw [h3] at h1
  obtain ⟨la, ln, lc, ma, mn, mc, va, vn, vc, _, _, _, _, ⟨h5, _⟩, _⟩ := h
  have h4 := M.num_len h5
  unfold M.bIns
  rw [List.length_append]
  have := Nat.mul_le_mul_left (10 + 10 * M.wIns x) h2
  omega
theorem BkIs.len {B : Nat} {w : World} {cs : List Value} {x : M.Bk} (h : BkIs B w cs x) : (M.bBk x).length ≤ 30 + 80 * M.wBk x := by
  obtain ⟨ia, inn, ic, ca, cn, cc, rfl, h2, h3, h4, h5⟩ := h
  have k1 := h4.nums_len h2
  have k2 := M.many_len M.bIns (fun x => (M.bIns x).length) x.code (by have := h5.len; omega) (fun _ _ => Nat.le_refl _)
  have k3 := M.sum_lin (fun x => (M.bIns x).length) M.wIns 70 60 x.code (fun y hy => by
    obtain ⟨cs, h⟩ := h5.all y hy
    exact h.len)
  unfold M.bBk M.wBk
  rw [List.length_append]
  omega
theorem FnIs.len {B : Nat} {w : World} {cs : List Value} {x : M.Fn} (h : FnIs B w cs x) : (M.bFn x).length ≤ 60 + 120 * M.wFn x := by
  obtain ⟨pa, pn, pc, ba, bn, bc, rfl, h2, h3, h4, h5, h6, h7⟩ := h
  have k1 := h6.nums_len h2
  have k2 := M.many_len M.bBk (fun x => (M.bBk x).length) x.blocks (by have := h7.len; omega) (fun _ _ => Nat.le_refl _)
  have k3 := M.sum_lin (fun x => (M.bBk x).length) M.wBk 30 80 x.blocks (fun y hy => by
    obtain ⟨cs, h⟩ := h7.all y hy
    exact h.len)
  have k4 := M.num_len h4
  have k5 := M.num_len h5
  unfold M.bFn M.wFn
  rw [List.length_append, List.length_append, List.length_append]
  omega
theorem ImgIs.len {B : Nat} {w : World} {v : ImgV} {m : M.Img} (h : ImgIs B w v m) : (M.bImg m).length ≤ 100 + 200 * M.wImg m := by
  obtain ⟨l1, l2, l3, l4, l5⟩ := h.le
  have t1 := M.many_len M.bTy (fun x => (M.bTy x).length) m.types (by have := h.types.len; omega) (fun _ _ => Nat.le_refl _)
  have t2 := M.sum_lin (fun x => (M.bTy x).length) M.wTy 30 10 m.types (fun y hy => by obtain ⟨cs, h⟩ := h.types.all y hy; exact h.len)
  have s1 := M.many_len M.bSh (fun x => (M.bSh x).length) m.shapes (by have := h.shapes.len; omega) (fun _ _ => Nat.le_refl _)
  have s2 := M.sum_lin (fun x => (M.bSh x).length) M.wSh 30 10 m.shapes (fun y hy => by obtain ⟨cs, h⟩ := h.shapes.all y hy; exact h.len)
  have x1 := M.many_len M.text (fun x => (M.text x).length) m.strings (by have := h.strings.len; omega) (fun _ _ => Nat.le_refl _)
  have x2 := M.sum_lin (fun x => (M.text x).length) ByteArray.size 10 1 m.strings (fun y hy => by obtain ⟨cs, _, h⟩ := h.strings.all y hy; have := M.text_len _ h; omega)
  have n1 := M.many_len M.text (fun x => (M.text x).length) m.names (by have := h.names.len; omega) (fun _ _ => Nat.le_refl _)
  have n2 := M.sum_lin (fun x => (M.text x).length) ByteArray.size 10 1 m.names (fun y hy => by obtain ⟨cs, _, h⟩ := h.names.all y hy; have := M.text_len _ h; omega)
  have f1 := M.many_len M.bFn (fun x => (M.bFn x).length) m.funcs (by have := h.funcs.len; omega) (fun _ _ => Nat.le_refl _)
  have f2 := M.sum_lin (fun x => (M.bFn x).length) M.wFn 60 120 m.funcs (fun y hy => by obtain ⟨cs, h⟩ := h.funcs.all y hy; exact h.len)
  have m1 := M.num_len h.in_main
  have e1 := M.num_len h.in_exn
  unfold M.bImg M.wImg
  simp only [List.length_append]
  omega
end Go.Proofs.YthlifflapgccbaaGreat
/- Images in every later world; bytes of the call's own as a text. -/
namespace Go.Proofs.YthlifflapgccbaaGreat
set_option linter.unusedVariables false
set_option linter.unusedSimpArgs false
open Go.ChangeShapes Go.WideShapes Go.ChangeAt Go.RowKit
open M (W)
theorem own_string {w : World} {base : Nat} {v : Value} {n : Nat} {xs : List Int} (h : w.ownsRow base 5 1 v n (xs.map (Value.int .u8))) :
    (convert 22 9 v).run Tryz.prog w = .ok (.string (strOfNums xs)) w := by
  obtain ⟨hl, h⟩ := h
  rcases h with ⟨rfl, rfl⟩ | ⟨g, cap, cur, rfl, hb, hg, h1, h2, h3, h4⟩
  · have : xs = [] := by simpa using hl
    subst this
    exact run_convert_bytes_nil w 22 5 Tryz.underlying22 Tryz.underlying5 0 0 9 Tryz.underlying9
  · refine run_convert_bytes_arg w 22 5 Tryz.underlying22 Tryz.underlying5 g 0 n cap xs (by simpa using hl) ?_ 9 Tryz.underlying9
    intro i hi
    have hn : xs.length = n := by simpa using hl
    have hx : (cur.toList.take (n * 1))[i]? = some (.int .u8 (xs.getD i 0)) := by
      rw [h4]; simp [List.getD, List.getElem?_eq_getElem (show i < xs.length by omega)]
    rw [List.getElem?_take_of_lt (by omega)] at hx
    rw [Array.getElem?_toList] at hx
    simp only [World.cell?, hg, Nat.zero_add]
    simpa using hx
theorem Lies.up {α : Type} {B C k : Nat} {w : World} {P Q : List Value → α → Prop} {a : Option Addr} {n : Nat} {xs : List α} (h : Lies B w k P a n xs) (hb : B ≤ C) (hq : ∀ cs x, P cs x → Q cs x) : Lies C w k Q a n xs :=
  ⟨h.len, fun hn => by
    obtain ⟨b, off, ha, hB, hx⟩ := h.at_ hn
    refine ⟨b, off, ha, by omega, fun i x hi => ?_⟩
    obtain ⟨cs, h1, h2, h3⟩ := hx i x hi
    exact ⟨cs, h1, hq cs x h2, h3⟩⟩
theorem Ints.up {B C : Nat} {w : World} {a : Option Addr} {n : Nat} {xs : List Int} (h : Ints B w a n xs) (hb : B ≤ C) : Ints C w a n xs := Lies.up h hb fun _ _ h => h
theorem TyIs.up {B C : Nat} {w : World} {cs : List Value} {x : M.Ty} (h : TyIs B w cs x) (hb : B ≤ C) : TyIs C w cs x := by
  obtain ⟨a, n, c, h1, h2, h3⟩ := h
  exact ⟨a, n, c, h1, h2, h3.up hb⟩
theorem ShIs.up {B C : Nat} {w : World} {cs : List Value} {x : M.Sh} (h : ShIs B w cs x) (hb : B ≤ C) : ShIs C w cs x := by
  obtain ⟨a, n, c, h1, h2, h3, h4, h5⟩ := h
  exact ⟨a, n, c, h1, h2, h3, h4, h5.up hb⟩
theorem InsIs.up {B C : Nat} {w : World} {cs : List Value} {x : M.Ins} (h : InsIs B w cs x) (hb : B ≤ C) : InsIs C w cs x := by
  obtain ⟨la, ln, lc, ma, mn, mc, va, vn, vc, h1, h2, h3, h4, h5, h6, h7, h8⟩ := h
  exact ⟨la, ln, lc, ma, mn, mc, va, vn, vc, h1, h2, h3, h4, h5, h6.up hb, h7.up hb, h8.up hb⟩
theorem BkIs.up {B C : Nat} {w : World} {cs : List Value} {x : M.Bk} (h : BkIs B w cs x) (hb : B ≤ C) : BkIs C w cs x := by
  obtain ⟨ia, inn, ic, ca, cn, cc, h1, h2, h3, h4, h5⟩ := h
  exact ⟨ia, inn, ic, ca, cn, cc, h1, h2, h3, h4.up hb, h5.up hb fun _ _ h => h.up hb⟩
theorem FnIs.up {B C : Nat} {w : World} {cs : List Value} {x : M.Fn} (h : FnIs B w cs x) (hb : B ≤ C) : FnIs C w cs x := by
  obtain ⟨pa, pn, pc, ba, bn, bc, h1, h2, h3, h4, h5, h6, h7⟩ := h
  exact ⟨pa, pn, pc, ba, bn, bc, h1, h2, h3, h4, h5, h6.up hb, h7.up hb fun _ _ h => h.up hb⟩
theorem ImgIs.up {B C : Nat} {w : World} {v : ImgV} {m : M.Img} (h : ImgIs B w v m) (hb : B ≤ C) : ImgIs C w v m :=
  ⟨h.main, h.exn, h.in_main, h.in_exn, h.le, h.types.up hb fun _ _ h => h.up hb, h.shapes.up hb fun _ _ h => h.up hb, h.strings.up hb fun _ _ h => h, h.names.up hb fun _ _ h => h, h.funcs.up hb fun _ _ h => h.up hb⟩
/-- An image in every later world. -/
theorem ImgIs.later {w W : World} {v : ImgV} {m : M.Img} (h : ImgIs w.heap.size w v m) (hb : Below w.heap.size w W) : ImgIs W.heap.size W v m := (h.keep hb (Nat.le_refl _)).up hb.size
theorem Below.blk {w W : World} {g : Nat} {t : TypeId} {cs : Array Value} (h : Below w.heap.size w W) (hb : Blk w g t cs) : Blk W g t cs := (h.block g hb.lt).trans hb
theorem below_next {w a b : World} (h : Below w.heap.size w a) (k : Below a.heap.size a b) : Below w.heap.size w b := h.trans (k.mono h.size)
end Go.Proofs.YthlifflapgccbaaGreat
