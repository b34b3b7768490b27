/- Images as lists: their parts, how many there may be, their bytes; where they lie. -/
import Derived.Test.YtjeehbcbflofpaaStill
import Derived.Test.YtjeehbcbflofpaaUses
namespace Go.Proofs.Ytjeehbcbflofpaa
set_option linter.unusedVariables false
open Go.ChangeShapes Go.WideShapes Go.ChangeAt Go.RowKit
namespace M
structure Ty where
  imm : Bool
  shapes : List Int
structure Sh where
  kind : Int
  fields : List Int
  name : ByteArray
structure Ins where
  op : Int
  d : Int
  a : Int
  b : Int
  c : Int
  n : Int
  l : List Int
  m : List Int
  v : List Int
structure Bk where
  inn : List Int
  code : List Ins
structure Fn where
  params : List Int
  result : Int
  slots : Int
  blocks : List Bk
structure Img where
  types : List Ty
  shapes : List Sh
  strings : List ByteArray
  names : List ByteArray
  funcs : List Fn
  main : Int
  exn : Int
/-- The bytes of a text as numbers. -/
def chars (s : ByteArray) : List Int := s.data.toList.map fun c => (c.toNat : Int)
theorem chars_len (s : ByteArray) : (chars s).length = s.size := by
  unfold chars
  rw [List.length_map, Array.length_toList]
  rfl
/-- A number; many things; numbers; a text. -/
def num (n : Int) : List Int := enc (zig n)
def many {α : Type} (f : α → List Int) (l : List α) : List Int := num l.length ++ l.flatMap f
def nums (l : List Int) : List Int := many num l
def text (s : ByteArray) : List Int := num s.size ++ chars s
def bTy (t : Ty) : List Int := num (if t.imm then 1 else 0) ++ nums t.shapes
def bSh (s : Sh) : List Int := num s.kind ++ nums s.fields ++ text s.name
def field (x : Ins) (c : UInt8) : List Int :=
  if c = 68 then num x.d else if c = 65 then num x.a else if c = 66 then num x.b else if c = 67 then num x.c else if c = 78 then num x.n
  else if c = 76 then nums x.l else if c = 77 then nums x.m else nums x.v
def bIns (x : Ins) : List Int := num x.op ++ (uses x.op).data.toList.flatMap (field x)
def bBk (b : Bk) : List Int := nums b.inn ++ many bIns b.code
def bFn (f : Fn) : List Int := nums f.params ++ num f.result ++ num f.slots ++ many bBk f.blocks
def bImg (m : Img) : List Int := many bTy m.types ++ many bSh m.shapes ++ many text m.strings ++ many text m.names ++ many bFn m.funcs ++ num m.main ++ num m.exn
/-- How many instructions. -/
def size (m : Img) : Nat := (m.funcs.map fun f => (f.blocks.map fun b => b.code.length).sum).sum
/-- What an image weighs, as the law counts it: a list at a time. -/
def wTy (t : Ty) : Nat := t.shapes.length
def wSh (s : Sh) : Nat := s.fields.length + s.name.size
def wIns (x : Ins) : Nat := x.l.length + x.m.length + x.v.length
def wBk (b : Bk) : Nat := b.inn.length + b.code.length + (b.code.map wIns).sum
def wFn (f : Fn) : Nat := f.params.length + f.blocks.length + (f.blocks.map wBk).sum
def wImg (m : Img) : Nat := m.types.length + m.shapes.length + m.strings.length + m.names.length + m.funcs.length + (m.types.map wTy).sum + (m.shapes.map wSh).sum + (m.strings.map ByteArray.size).sum + (m.names.map ByteArray.size).sum + (m.funcs.map wFn).sum
/-- What is too great. -/
def bigTy (t : Ty) : Bool := decide (512 < t.shapes.length)
def bigSh (s : Sh) : Bool := decide (200 < s.fields.length) || decide (16384 < s.name.size)
def bigTx (s : ByteArray) : Bool := decide (16384 < s.size)
def bigIns (x : Ins) : Bool := decide (1024 < x.l.length) || decide (1024 < x.m.length) || decide (200 < x.v.length)
def bigBk (b : Bk) : Bool := decide (200 < b.inn.length)
def bigFn (f : Fn) : Bool := decide (200 < f.slots) || decide (200 < f.params.length) || decide (2000 < f.blocks.length) || f.blocks.any bigBk
def anyIns (p : Ins → Bool) (m : Img) : Bool := m.funcs.any fun f => f.blocks.any fun b => b.code.any p
def big (m : Img) : Bool :=
  decide (1024 < m.types.length) || decide (512 < m.shapes.length) || decide (256 < m.strings.length) || decide (256 < m.names.length) || decide (1024 < m.funcs.length) ||
  m.types.any bigTy || m.shapes.any bigSh || m.strings.any bigTx || m.names.any bigTx || m.funcs.any bigFn || decide (20000 < size m) || anyIns bigIns m
end M

def In64 (n : Int) : Prop := -9223372036854775808 ≤ n ∧ n ≤ 9223372036854775807
/-- n things of k cells each lie from a on, in a block below B: each as P says of its cells. -/
structure Lies {α : Type} (B : Nat) (w : World) (k : Nat) (P : List Value → α → Prop) (a : Option Addr) (n : Nat) (xs : List α) : Prop where
  len : xs.length = n
  at_ : 0 < n → ∃ b off, a = some ⟨b, off, none⟩ ∧ b < B ∧ ∀ i x, xs[i]? = some x → ∃ cs : List Value, cs.length = k ∧ P cs x ∧ ∀ j, j < k → w.cell? ⟨b, off + i * k + j, none⟩ = cs[j]?
def IntIs (cs : List Value) (z : Int) : Prop := cs = [.int .i64 z] ∧ In64 z
def TxIs (cs : List Value) (s : ByteArray) : Prop := cs = [.string s] ∧ s.size ≤ maxLen
def Ints (B : Nat) (w : World) (a : Option Addr) (n : Nat) (xs : List Int) : Prop := Lies B w 1 IntIs a n xs
def Txts (B : Nat) (w : World) (a : Option Addr) (n : Nat) (xs : List ByteArray) : Prop := Lies B w 1 TxIs a n xs
def TyIs (B : Nat) (w : World) (cs : List Value) (t : M.Ty) : Prop := ∃ a n c, cs = [.bool t.imm, .slice a n c] ∧ n ≤ maxLen ∧ Ints B w a n t.shapes
def ShIs (B : Nat) (w : World) (cs : List Value) (s : M.Sh) : Prop := ∃ a n c, cs = [.int .i64 s.kind, .slice a n c, .string s.name] ∧ n ≤ maxLen ∧ In64 s.kind ∧ s.name.size ≤ maxLen ∧ Ints B w a n s.fields
def InsIs (B : Nat) (w : World) (cs : List Value) (x : M.Ins) : Prop := ∃ la ln lc ma mn mc va vn vc, cs = [.int .i64 x.op, .int .i64 x.d, .int .i64 x.a, .int .i64 x.b, .int .i64 x.c, .int .i64 x.n, .slice la ln lc, .slice ma mn mc, .slice va vn vc] ∧
  ln ≤ maxLen ∧ mn ≤ maxLen ∧ vn ≤ maxLen ∧ (In64 x.op ∧ In64 x.d ∧ In64 x.a ∧ In64 x.b ∧ In64 x.c ∧ In64 x.n) ∧ Ints B w la ln x.l ∧ Ints B w ma mn x.m ∧ Ints B w va vn x.v
def BkIs (B : Nat) (w : World) (cs : List Value) (x : M.Bk) : Prop := ∃ ia inn ic ca cn cc, cs = [.slice ia inn ic, .slice ca cn cc] ∧ inn ≤ maxLen ∧ cn ≤ maxLen ∧ Ints B w ia inn x.inn ∧ Lies B w 9 (InsIs B w) ca cn x.code
def FnIs (B : Nat) (w : World) (cs : List Value) (x : M.Fn) : Prop := ∃ pa pn pc ba bn bc, cs = [.slice pa pn pc, .int .i64 x.result, .int .i64 x.slots, .slice ba bn bc] ∧ pn ≤ maxLen ∧ bn ≤ maxLen ∧ In64 x.result ∧ In64 x.slots ∧ Ints B w pa pn x.params ∧ Lies B w 2 (BkIs B w) ba bn x.blocks
structure ImgV where
  ta : Option Addr
  tn : Nat
  tc : Nat
  sa : Option Addr
  sn : Nat
  sc : Nat
  xa : Option Addr
  xn : Nat
  xc : Nat
  na : Option Addr
  nn : Nat
  nc : Nat
  fa : Option Addr
  fn : Nat
  fc : Nat
  main : Int
  exn : Int
abbrev ImgV.cells (v : ImgV) : Array Value := #[.slice v.ta v.tn v.tc, .slice v.sa v.sn v.sc, .slice v.xa v.xn v.xc, .slice v.na v.nn v.nc, .slice v.fa v.fn v.fc, .int .i64 v.main, .int .i64 v.exn]
structure ImgIs (B : Nat) (w : World) (v : ImgV) (m : M.Img) : Prop where
  main : v.main = m.main
  exn : v.exn = m.exn
  in_main : In64 m.main
  in_exn : In64 m.exn
  le : v.tn ≤ maxLen ∧ v.sn ≤ maxLen ∧ v.xn ≤ maxLen ∧ v.nn ≤ maxLen ∧ v.fn ≤ maxLen
  types : Lies B w 2 (TyIs B w) v.ta v.tn m.types
  shapes : Lies B w 3 (ShIs B w) v.sa v.sn m.shapes
  strings : Txts B w v.xa v.xn m.strings
  names : Txts B w v.na v.nn m.names
  funcs : Lies B w 4 (FnIs B w) v.fa v.fn m.funcs

theorem Lies.keep {α : Type} {B k : Nat} {w w' : World} {P Q : List Value → α → Prop} {a : Option Addr} {n : Nat} {xs : List α} (h : Lies B w k P a n xs) (hb : Below B w w') (hl : B ≤ w.heap.size) (hq : ∀ cs x, x ∈ xs → P cs x → Q cs x) : Lies B w' k Q a n xs :=
  ⟨h.len, fun hn => by
    obtain ⟨b, off, ha, hB, hx⟩ := h.at_ hn
    refine ⟨b, off, ha, hB, fun i x hi => ?_⟩
    obtain ⟨cs, h1, h2, h3⟩ := hx i x hi
    exact ⟨cs, h1, hq cs x (List.mem_of_getElem? hi) h2, fun j hj => by rw [← h3 j hj]; exact World.cell?_of_block (w := w) (hb.block b hB)⟩⟩
theorem Ints.keep {B : Nat} {w w' : World} {a : Option Addr} {n : Nat} {xs : List Int} (h : Ints B w a n xs) (hb : Below B w w') (hl : B ≤ w.heap.size) : Ints B w' a n xs := Lies.keep h hb hl fun _ _ _ h => h
theorem Txts.keep {B : Nat} {w w' : World} {a : Option Addr} {n : Nat} {xs : List ByteArray} (h : Txts B w a n xs) (hb : Below B w w') (hl : B ≤ w.heap.size) : Txts B w' a n xs := Lies.keep h hb hl fun _ _ _ h => h
theorem TyIs.keep {B : Nat} {w w' : World} {cs : List Value} {x : M.Ty} (h : TyIs B w cs x) (hb : Below B w w') (hl : B ≤ w.heap.size) : TyIs B w' cs x := by
  obtain ⟨a, n, c, h1, h2, h3⟩ := h
  exact ⟨a, n, c, h1, h2, h3.keep hb hl⟩
theorem ShIs.keep {B : Nat} {w w' : World} {cs : List Value} {x : M.Sh} (h : ShIs B w cs x) (hb : Below B w w') (hl : B ≤ w.heap.size) : ShIs B w' cs x := by
  obtain ⟨a, n, c, h1, h2, h3, h4, h5⟩ := h
  exact ⟨a, n, c, h1, h2, h3, h4, h5.keep hb hl⟩
theorem InsIs.keep {B : Nat} {w w' : World} {cs : List Value} {x : M.Ins} (h : InsIs B w cs x) (hb : Below B w w') (hl : B ≤ w.heap.size) : InsIs B w' cs x := by
  obtain ⟨la, ln, lc, ma, mn, mc, va, vn, vc, h1, h2, h3, h4, h5, h6, h7, h8⟩ := h
  exact ⟨la, ln, lc, ma, mn, mc, va, vn, vc, h1, h2, h3, h4, h5, h6.keep hb hl, h7.keep hb hl, h8.keep hb hl⟩
theorem BkIs.keep {B : Nat} {w w' : World} {cs : List Value} {x : M.Bk} (h : BkIs B w cs x) (hb : Below B w w') (hl : B ≤ w.heap.size) : BkIs B w' cs x := by
  obtain ⟨ia, inn, ic, ca, cn, cc, h1, h2, h3, h4, h5⟩ := h
  exact ⟨ia, inn, ic, ca, cn, cc, h1, h2, h3, h4.keep hb hl, h5.keep hb hl fun _ _ _ h => h.keep hb hl⟩
theorem FnIs.keep {B : Nat} {w w' : World} {cs : List Value} {x : M.Fn} (h : FnIs B w cs x) (hb : Below B w w') (hl : B ≤ w.heap.size) : FnIs B w' cs x := by
  obtain ⟨pa, pn, pc, ba, bn, bc, h1, h2, h3, h4, h5, h6, h7⟩ := h
  exact ⟨pa, pn, pc, ba, bn, bc, h1, h2, h3, h4, h5, h6.keep hb hl, h7.keep hb hl fun _ _ _ h => h.keep hb hl⟩
theorem ImgIs.keep {B : Nat} {w w' : World} {v : ImgV} {m : M.Img} (h : ImgIs B w v m) (hb : Below B w w') (hl : B ≤ w.heap.size) : ImgIs B w' v m :=
  ⟨h.main, h.exn, h.in_main, h.in_exn, h.le, h.types.keep hb hl fun _ _ _ h => h.keep hb hl, h.shapes.keep hb hl fun _ _ _ h => h.keep hb hl, h.strings.keep hb hl, h.names.keep hb hl, h.funcs.keep hb hl fun _ _ _ h => h.keep hb hl⟩
/-- What lies at i. -/
theorem Lies.here {α : Type} {B k : Nat} {w : World} {P : List Value → α → Prop} {a : Option Addr} {n : Nat} {xs : List α} (h : Lies B w k P a n xs) {i : Nat} (hi : i < n) :
    ∃ b off x cs, a = some ⟨b, off, none⟩ ∧ b < B ∧ xs[i]? = some x ∧ cs.length = k ∧ P cs x ∧ ∀ j, j < k → w.cell? ⟨b, off + i * k + j, none⟩ = cs[j]? := by
  obtain ⟨b, off, ha, hB, hx⟩ := h.at_ (by omega)
  have hil : i < xs.length := by rw [h.len]; exact hi
  obtain ⟨cs, h1, h2, h3⟩ := hx i _ (List.getElem?_eq_getElem hil)
  exact ⟨b, off, _, cs, ha, hB, List.getElem?_eq_getElem hil, h1, h2, h3⟩
theorem cells1 {α : Type} : ∀ (l : List α), l.length = 1 → ∃ a, l = [a]
  | [a], _ => ⟨a, rfl⟩
theorem cells2 {α : Type} : ∀ (l : List α), l.length = 2 → ∃ a b, l = [a, b]
  | [a, b], _ => ⟨a, b, rfl⟩
theorem cells3 {α : Type} : ∀ (l : List α), l.length = 3 → ∃ a b c, l = [a, b, c]
  | [a, b, c], _ => ⟨a, b, c, rfl⟩
theorem cells4 {α : Type} : ∀ (l : List α), l.length = 4 → ∃ a b c d, l = [a, b, c, d]
  | [a, b, c, d], _ => ⟨a, b, c, d, rfl⟩
theorem cells7 {α : Type} : ∀ (l : List α), l.length = 7 → ∃ a b c d e f g, l = [a, b, c, d, e, f, g]
  | [a, b, c, d, e, f, g], _ => ⟨a, b, c, d, e, f, g, rfl⟩
theorem cells9 {α : Type} : ∀ (l : List α), l.length = 9 → ∃ a b c d e f g h i, l = [a, b, c, d, e, f, g, h, i]
  | [a, b, c, d, e, f, g, h, i], _ => ⟨a, b, c, d, e, f, g, h, i, rfl⟩
end Go.Proofs.Ytjeehbcbflofpaa
