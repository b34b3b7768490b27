/- Lemmas, put together: Qar Qar2 Qar3 Qar4. -/
import Derived.Test.YthlifflapgccbaaGreatL11
import Derived.Test.YthlifflapgccbaaGreatL15
import Derived.Test.YthlifflapgccbaaGreatL07
/- The document's reader, in lists: parsers that know no limits; what the code's parsers find they find too. No program in sight. -/
namespace Go.Proofs.YthlifflapgccbaaGreat
set_option linter.unusedVariables false
set_option linter.unusedSimpArgs false
open Go.ChangeShapes Go.WideShapes Go.ChangeAt Go.RowKit
namespace M
/-- A parser that knows no limits. -/
abbrev Pr (α : Type) := List Int → Option (α × List Int)
def qNum : Pr Int := fun R => match got R with
  | some (x, n) => some (zag x, R.drop n)
  | none => none
def qLen : Pr Nat := fun R => match qNum R with
  | some (n, R1) => if 0 ≤ n ∧ n ≤ R1.length then some (n.toNat, R1) else none
  | none => none
def qRep {α : Type} (p : Pr α) : Nat → Pr (List α)
  | 0 => fun R => some ([], R)
  | n + 1 => fun R => match p R with
    | some (x, R1) => match qRep p n R1 with
      | some (l, R2) => some (x :: l, R2)
      | none => none
    | none => none
def qList {α : Type} (p : Pr α) : Pr (List α) := fun R => match qLen R with
  | some (n, R1) => qRep p n R1
  | none => none
def qText : Pr ByteArray := fun R => match qLen R with
  | some (n, R1) => some (strOfNums (R1.take n), R1.drop n)
  | none => none
def qThen {α β γ : Type} (p : Pr α) (q : Pr β) (f : α → β → γ) : Pr γ := fun R => match p R with
  | some (x, R1) => match q R1 with
    | some (y, R2) => some (f x y, R2)
    | none => none
  | none => none
def qMap {α β : Type} (p : Pr α) (f : α → β) : Pr β := fun R => match p R with
  | some (x, R1) => some (f x, R1)
  | none => none
def qTy : Pr Ty := qThen qNum (qList qNum) fun n l => ⟨decide (n = 1), l⟩
def qSh : Pr Sh := qThen qNum (qThen (qList qNum) qText Prod.mk) fun k p => ⟨k, p.1, p.2⟩
def qField (x : Ins) (c : UInt8) : Pr Ins :=
  if c = 68 then qMap qNum (fun n => { x with d := n })
  else if c = 65 then qMap qNum (fun n => { x with a := n })
  else if c = 66 then qMap qNum (fun n => { x with b := n })
  else if c = 67 then qMap qNum (fun n => { x with c := n })
  else if c = 78 then qMap qNum (fun n => { x with n := n })
  else if c = 76 then qMap (qList qNum) (fun n => { x with l := n })
  else if c = 77 then qMap (qList qNum) (fun n => { x with m := n })
  else qMap (qList qNum) (fun n => { x with v := n })
def qFields : List UInt8 → Ins → Pr Ins
  | [], x => fun R => some (x, R)
  | c :: u, x => fun R => match qField x c R with
    | some (y, R1) => qFields u y R1
    | none => none
def qIns : Pr Ins := fun R => match qNum R with
  | some (op, R1) => if (uses op).data.toList = [] then none else qFields (uses op).data.toList ⟨op, 0, 0, 0, 0, 0, [], [], []⟩ R1
  | none => none
def qBk : Pr Bk := qThen (qList qNum) (qList qIns) Bk.mk
def qFn : Pr Fn := qThen (qList qNum) (qThen qNum (qThen qNum (qList qBk) Prod.mk) Prod.mk) fun p q => ⟨p, q.1, q.2.1, q.2.2⟩
/-- What p finds, if it is P, q finds too. -/
def Ext {α : Type} (p : Par α) (q : Pr α) (P : α → Prop) : Prop := ∀ z R x z1 R1, p z R = some (x, z1, R1) → P x → q R = some (x, R1)
abbrev Any {α : Type} : α → Prop := fun _ => True
theorem ext_num : Ext pNum qNum Any := fun z R x z1 R1 h _ => by
  unfold pNum at h
  unfold qNum
  cases hg : got R with
  | none => rw [hg] at h; cases h
  | some p => rw [hg] at h; cases h; rfl
theorem ext_len (most : Nat) : Ext (pLen most) qLen Any := fun z R x z1 R1 h _ => by
  unfold pLen at h
  unfold qLen
  cases hp : pNum z R with
  | none => rw [hp] at h; cases h
  | some p =>
    obtain ⟨n, z2, R2⟩ := p
    rw [hp] at h
    rw [ext_num z R n z2 R2 hp trivial]
    simp only at h ⊢
    split at h
    · rename_i hc
      cases h
      rw [if_pos ⟨hc.1, hc.2.2⟩]
    · cases h
theorem ext_rep {α : Type} {p : Par α} {q : Pr α} {P : α → Prop} (hp : Ext p q P) : ∀ n, Ext (pRep p n) (qRep q n) (fun l => ∀ x ∈ l, P x)
  | 0 => fun z R x z1 R1 h _ => by cases h; rfl
  | n + 1 => fun z R x z1 R1 h hP => by
    simp only [pRep] at h
    cases hh : p z R with
    | none => rw [hh] at h; cases h
    | some y =>
      obtain ⟨y, z2, R2⟩ := y
      rw [hh] at h
      simp only at h
      cases hr : pRep p n z2 R2 with
      | none => rw [hr] at h; cases h
      | some l =>
        obtain ⟨l, z3, R3⟩ := l
        rw [hr] at h
        cases h
        have h1 := hp z R y z2 R2 hh (hP y (List.mem_cons_self ..))
        have h2 := ext_rep hp n z2 R2 l z1 R1 hr (fun x hx => hP x (List.mem_cons_of_mem _ hx))
        simp only [qRep, h1, h2]
theorem ext_list {α : Type} {p : Par α} {q : Pr α} {P : α → Prop} (hp : Ext p q P) (most : Nat) : Ext (pList most p) (qList q) (fun l => ∀ x ∈ l, P x) := fun z R x z1 R1 h hP => by
  unfold pList at h
  unfold qList
  cases hl : pLen most z R with
  | none => rw [hl] at h; cases h
  | some y =>
    obtain ⟨n, z2, R2⟩ := y
    rw [hl] at h
    rw [ext_len most z R n z2 R2 hl trivial]
    exact ext_rep hp n z2 R2 x z1 R1 h hP
theorem ext_nums (most : Nat) : Ext (pList most pNum) (qList qNum) Any := fun z R x z1 R1 h _ => ext_list ext_num most z R x z1 R1 h (fun _ _ => trivial)
theorem ext_text : Ext pText qText Any := fun z R x z1 R1 h _ => by
  unfold pText at h
  unfold qText
  cases hl : pLen 16384 z R with
  | none => rw [hl] at h; cases h
  | some y =>
    obtain ⟨n, z2, R2⟩ := y
    rw [hl] at h
    rw [ext_len _ z R n z2 R2 hl trivial]
    cases h
    rfl
theorem ext_then {α β γ : Type} {p : Par α} {p' : Par β} {q : Pr α} {q' : Pr β} {P : α → Prop} {P' : β → Prop} {f : α → β → γ} {Q : γ → Prop} (h1 : Ext p q P) (h2 : Ext p' q' P') (hQ : ∀ x y, Q (f x y) → P x ∧ P' y) : Ext (andThen p (fun _ => p') f) (qThen q q' f) Q := fun z R x z1 R1 h hx => by
  unfold andThen at h
  unfold qThen
  cases ha : p z R with
  | none => rw [ha] at h; cases h
  | some y =>
    obtain ⟨a, z2, R2⟩ := y
    rw [ha] at h
    simp only at h
    cases hb : p' z2 R2 with
    | none => rw [hb] at h; cases h
    | some y =>
      obtain ⟨b, z3, R3⟩ := y
      rw [hb] at h
      cases h
      obtain ⟨e1, e2⟩ := hQ a b hx
      rw [h1 z R a z2 R2 ha e1]
      simp only
      rw [h2 z2 R2 b z1 R1 hb e2]
theorem ext_map {α β : Type} {p : Par α} {q : Pr α} {f : α → β} {P : α → Prop} {Q : β → Prop} (h1 : Ext p q P) (hQ : ∀ x, Q (f x) → P x) : Ext (andThen p (fun (n : α) z R => some (n, z, R)) fun n _ => f n) (qMap q f) Q := fun z R x z1 R1 h hx => by
  unfold andThen at h
  unfold qMap
  cases ha : p z R with
  | none => rw [ha] at h; cases h
  | some y =>
    obtain ⟨a, z2, R2⟩ := y
    rw [ha] at h
    cases h
    rw [h1 z R a z1 R1 ha (hQ a hx)]
end M
end Go.Proofs.YthlifflapgccbaaGreat
/- The document's reader, in lists: whole images. No program in sight. -/
namespace Go.Proofs.YthlifflapgccbaaGreat
set_option linter.unusedVariables false
set_option linter.unusedSimpArgs false
open Go.ChangeShapes Go.WideShapes Go.ChangeAt Go.RowKit
namespace M
theorem ext_Ty : Ext pTy qTy Any := fun z R x z1 R1 h _ => by
  unfold pTy andThen pYes at h
  unfold qTy qThen
  cases hn : pNum z R with
  | none => rw [hn] at h; cases h
  | some y =>
    obtain ⟨n, z2, R2⟩ := y
    rw [hn] at h
    rw [ext_num z R n z2 R2 hn trivial]
    simp only at h ⊢
    by_cases h0 : n = 0
    · rw [if_pos h0] at h
      simp only at h
      cases hl : pList 512 pNum z2 R2 with
      | none => rw [hl] at h; cases h
      | some y =>
        obtain ⟨l, z3, R3⟩ := y
        rw [hl] at h
        cases h
        rw [ext_nums 512 z2 R2 l z1 R1 hl trivial]
        simp [h0]
    · rw [if_neg h0] at h
      by_cases h1 : n = 1
      · rw [if_pos h1] at h
        simp only at h
        cases hl : pList 512 pNum z2 R2 with
        | none => rw [hl] at h; cases h
        | some y =>
          obtain ⟨l, z3, R3⟩ := y
          rw [hl] at h
          cases h
          rw [ext_nums 512 z2 R2 l z1 R1 hl trivial]
          simp [h1]
      · rw [if_neg h1] at h; cases h
theorem ext_Sh : Ext pSh qSh Any := ext_then (P := Any) (P' := Any) ext_num (ext_then (P := Any) (P' := Any) (ext_nums 200) ext_text fun _ _ _ => ⟨trivial, trivial⟩) fun _ _ _ => ⟨trivial, trivial⟩
theorem ext_Field (x : Ins) (c : UInt8) : Ext (pField x c) (qField x c) Any := by
  unfold pField qField
  by_cases h1 : c = 68
  · rw [if_pos h1, if_pos h1]; exact ext_map (P := Any) ext_num fun _ _ => trivial
  · rw [if_neg h1, if_neg h1]
    by_cases h2 : c = 65
    · rw [if_pos h2, if_pos h2]; exact ext_map (P := Any) ext_num fun _ _ => trivial
    · rw [if_neg h2, if_neg h2]
      by_cases h3 : c = 66
      · rw [if_pos h3, if_pos h3]; exact ext_map (P := Any) ext_num fun _ _ => trivial
      · rw [if_neg h3, if_neg h3]
        by_cases h4 : c = 67
        · rw [if_pos h4, if_pos h4]; exact ext_map (P := Any) ext_num fun _ _ => trivial
        · rw [if_neg h4, if_neg h4]
          by_cases h5 : c = 78
          · rw [if_pos h5, if_pos h5]; exact ext_map (P := Any) ext_num fun _ _ => trivial
          · rw [if_neg h5, if_neg h5]
            by_cases h6 : c = 76
            · rw [if_pos h6, if_pos h6]; exact ext_map (P := Any) (ext_nums 1024) fun _ _ => trivial
            · rw [if_neg h6, if_neg h6]
              by_cases h7 : c = 77
              · rw [if_pos h7, if_pos h7]; exact ext_map (P := Any) (ext_nums 1024) fun _ _ => trivial
              · rw [if_neg h7, if_neg h7]; exact ext_map (P := Any) (ext_nums 200) fun _ _ => trivial
theorem ext_Fields : ∀ (u : List UInt8) (x : Ins), Ext (pFields u x) (qFields u x) Any
  | [], x => fun z R y z1 R1 h _ => by cases h; rfl
  | c :: u, x => fun z R y z1 R1 h _ => by
    simp only [pFields] at h
    simp only [qFields]
    cases hf : pField x c z R with
    | none => rw [hf] at h; cases h
    | some v =>
      obtain ⟨v, z2, R2⟩ := v
      rw [hf] at h
      rw [ext_Field x c z R v z2 R2 hf trivial]
      exact ext_Fields u v z2 R2 y z1 R1 h trivial
/-- Of a field's reader the operation stays. -/
theorem field_op {x y : Ins} {c : UInt8} {z z1 : Nat} {R R1 : List Int} (h : pField x c z R = some (y, z1, R1)) : y.op = x.op := by
  have key : ∀ {α : Type} {p : Par α} {f : α → Ins}, andThen p (fun n z R => some (n, z, R)) (fun n _ => f n) z R = some (y, z1, R1) → (∀ n, (f n).op = x.op) → y.op = x.op := fun {α} {p} {f} h hf => by
    unfold andThen at h
    cases hp : p z R with
    | none => rw [hp] at h; cases h
    | some v => obtain ⟨v, z2, R2⟩ := v; rw [hp] at h; cases h; exact hf v
  unfold pField at h
  split at h
  · exact key h (fun _ => rfl)
  · split at h
    · exact key h (fun _ => rfl)
    · split at h
      · exact key h (fun _ => rfl)
      · split at h
        · exact key h (fun _ => rfl)
        · split at h
          · exact key h (fun _ => rfl)
          · split at h
            · exact key h (fun _ => rfl)
            · split at h
              · exact key h (fun _ => rfl)
              · exact key h (fun _ => rfl)
theorem fields_op : ∀ (u : List UInt8) (x y : Ins) (z z1 : Nat) (R R1 : List Int), pFields u x z R = some (y, z1, R1) → y.op = x.op
  | [], x, y, z, z1, R, R1, h => by cases h; rfl
  | c :: u, x, y, z, z1, R, R1, h => by
    simp only [pFields] at h
    cases hf : pField x c z R with
    | none => rw [hf] at h; cases h
    | some v =>
      obtain ⟨v, z2, R2⟩ := v
      rw [hf] at h
      rw [fields_op u v y z2 z1 R2 R1 h, field_op hf]
def known (x : Ins) : Prop := (uses x.op).data.toList ≠ []
theorem ext_Ins : Ext pIns qIns known := fun z R x z1 R1 h hk => by
  unfold pIns at h
  unfold qIns
  cases hn : pNum z R with
  | none => rw [hn] at h; cases h
  | some y =>
    obtain ⟨n, z2, R2⟩ := y
    rw [hn] at h
    rw [ext_num z R n z2 R2 hn trivial]
    simp only at h ⊢
    have hop := fields_op _ _ _ _ _ _ _ h
    rw [if_neg (by unfold known at hk; rw [hop] at hk; exact hk)]
    exact ext_Fields _ _ z2 R2 x z1 R1 h trivial
theorem ext_Code : Ext pCode (qList qIns) (fun l => ∀ x ∈ l, known x) := fun z R x z1 R1 h hP => by
  unfold pCode at h
  cases hl : pList (20000 - z) pIns z R with
  | none => rw [hl] at h; cases h
  | some y =>
    obtain ⟨l, z2, R2⟩ := y
    rw [hl] at h
    cases h
    exact ext_list ext_Ins _ z R x z2 R1 hl hP
theorem ext_Bk : Ext pBk qBk (fun b => ∀ x ∈ b.code, known x) := ext_then (P := Any) (ext_nums 200) ext_Code fun _ _ h => ⟨trivial, h⟩
theorem ext_Fn : Ext pFn qFn (fun f => ∀ b ∈ f.blocks, ∀ x ∈ b.code, known x) :=
  ext_then (P := Any) (P' := fun q => ∀ b ∈ q.2.2, ∀ x ∈ b.code, known x) (ext_nums 200)
    (ext_then (P := Any) (P' := fun q => ∀ b ∈ q.2, ∀ x ∈ b.code, known x) ext_num
      (ext_then (P := Any) (P' := fun l => ∀ b ∈ l, ∀ x ∈ b.code, known x) ext_num (ext_list ext_Bk 2000) fun _ _ h => ⟨trivial, h⟩) fun _ _ h => ⟨trivial, h⟩) fun _ _ h => ⟨trivial, h⟩
end M
end Go.Proofs.YthlifflapgccbaaGreat
/- The document's reader, in lists: an image that is good is read as itself. No program in sight. -/
namespace Go.Proofs.YthlifflapgccbaaGreat
set_option linter.unusedVariables false
set_option linter.unusedSimpArgs false
open Go.ChangeShapes Go.WideShapes Go.ChangeAt Go.RowKit
namespace M
def qImg : Pr Img := qThen (qList qTy) (qThen (qList qSh) (qThen (qList qText) (qThen (qList qText) (qThen (qList qFn) (qThen qNum qNum Prod.mk) Prod.mk) Prod.mk) Prod.mk) Prod.mk) fun t q => ⟨t, q.1, q.2.1, q.2.2.1, q.2.2.2.1, q.2.2.2.2.1, q.2.2.2.2.2⟩
def knownFn (f : Fn) : Prop := ∀ b ∈ f.blocks, ∀ x ∈ b.code, known x
theorem ext_any {α : Type} {p : Par α} {q : Pr α} (h : Ext p q Any) (most : Nat) : Ext (pList most p) (qList q) Any := fun z R x z1 R1 e _ => ext_list h most z R x z1 R1 e (fun _ _ => trivial)
theorem ext_Img : Ext pImg qImg (fun m => ∀ f ∈ m.funcs, knownFn f) :=
  ext_then (P := Any) (P' := fun q => ∀ f ∈ q.2.2.2.1, knownFn f) (ext_any ext_Ty 1024)
    (ext_then (P := Any) (P' := fun q => ∀ f ∈ q.2.2.1, knownFn f) (ext_any ext_Sh 512)
      (ext_then (P := Any) (P' := fun q => ∀ f ∈ q.2.1, knownFn f) (ext_any ext_text 256)
        (ext_then (P := Any) (P' := fun q => ∀ f ∈ q.1, knownFn f) (ext_any ext_text 256)
          (ext_then (P := fun l => ∀ f ∈ l, knownFn f) (P' := Any) (ext_list ext_Fn 1024) (ext_then (P := Any) (P' := Any) ext_num ext_num fun _ _ _ => ⟨trivial, trivial⟩) fun _ _ h => ⟨h, trivial⟩)
          fun _ _ h => ⟨trivial, h⟩) fun _ _ h => ⟨trivial, h⟩) fun _ _ h => ⟨trivial, h⟩) fun _ _ h => ⟨trivial, h⟩
theorem plain_known {x : Ins} (h : plainIns x = true) : known x := by
  unfold known
  intro e
  unfold plainIns plain at h
  rw [show uses x.op = ByteArray.empty from by
    cases hu : uses x.op with
    | mk a =>
      rw [hu] at e
      have : a = #[] := Array.toList_inj.1 e
      rw [this]; rfl] at h
  simp at h
theorem good_known {m : Img} (h : check m = 0) : ∀ f ∈ m.funcs, knownFn f := fun f hf b hb x hx => by
  have h2 := (check_zero h).2
  have h3 := all_false (all_false (all_false (show (m.funcs.any fun f => f.blocks.any fun b => b.code.any fun x => !(plainIns x)) = false from h2) f hf) b hb) x hx
  exact plain_known (by simpa using h3)
/-- Whatever is good is read. -/
theorem good_reads {L : List Int} {m : Img} (h : Good L m) : qImg (L.drop 4) = some (m, []) := by
  obtain ⟨rfl, ho, hc⟩ := h
  show qImg (bImg m) = _
  exact ext_Img 0 (bImg m) m (size m) [] (cmp_Img ho hc) (good_known hc)
end M
end Go.Proofs.YthlifflapgccbaaGreat
/- The document's reader, in lists: each thing that is read takes a byte. No program in sight. -/
namespace Go.Proofs.YthlifflapgccbaaGreat
set_option linter.unusedVariables false
set_option linter.unusedSimpArgs false
open Go.ChangeShapes Go.WideShapes Go.ChangeAt Go.RowKit
namespace M
/-- What is read weighs no more than the bytes that it takes. -/
def Wt {α : Type} (p : Pr α) (g : α → Nat) : Prop := ∀ R x R1, p R = some (x, R1) → g x + R1.length ≤ R.length
theorem wt_num : Wt qNum (fun _ => 1) := fun R x R1 h => by
  unfold qNum at h
  cases hg : got R with
  | none => rw [hg] at h; cases h
  | some p =>
    obtain ⟨v, n⟩ := p
    rw [hg] at h
    simp only [Option.some.injEq, Prod.mk.injEq] at h
    obtain ⟨-, rfl⟩ := h
    have : 1 ≤ n ∧ n ≤ R.length := by
      unfold got at hg
      split at hg
      · cases hg
      · rename_i i hi
        obtain ⟨h1, h2, h3, c, h4, h5⟩ := stop_some 10 R i hi
        split at hg
        · simp only [Option.some.injEq, Prod.mk.injEq] at hg
          omega
        · cases hg
    show 1 + _ ≤ _
    rw [List.length_drop]; omega
theorem wt_weak {α : Type} {p : Pr α} {g g' : α → Nat} (h : Wt p g) (hg : ∀ x, g' x ≤ g x) : Wt p g' := fun R x R1 e => by
  have h1 := h R x R1 e
  have h2 := hg x
  omega
theorem wt_rep {α : Type} {p : Pr α} {g : α → Nat} (h : Wt p g) : ∀ n, Wt (qRep p n) (fun l => (l.map g).sum)
  | 0 => fun R l R1 e => by cases e; simp
  | n + 1 => fun R l R1 e => by
    simp only [qRep] at e
    cases hp : p R with
    | none => rw [hp] at e; cases e
    | some y =>
      obtain ⟨x, R2⟩ := y
      rw [hp] at e
      simp only at e
      cases hr : qRep p n R2 with
      | none => rw [hr] at e; cases e
      | some z =>
        obtain ⟨l2, R3⟩ := z
        rw [hr] at e
        cases e
        have h1 := h R x R2 hp
        have h2 := wt_rep h n R2 l2 R1 hr
        simp only [List.map_cons, List.sum_cons] at h2 ⊢
        omega
theorem wt_len : Wt qLen (fun _ => 1) := fun R x R1 e => by
  unfold qLen at e
  cases hn : qNum R with
  | none => rw [hn] at e; cases e
  | some y =>
    obtain ⟨n, R2⟩ := y
    rw [hn] at e
    simp only at e
    split at e
    · cases e; exact wt_num R n R1 hn
    · cases e
theorem wt_list {α : Type} {p : Pr α} {g : α → Nat} (h : Wt p g) : Wt (qList p) (fun l => 1 + (l.map g).sum) := fun R l R1 e => by
  unfold qList at e
  cases hl : qLen R with
  | none => rw [hl] at e; cases e
  | some y =>
    obtain ⟨n, R2⟩ := y
    rw [hl] at e
    have h1 := wt_len R n R2 hl
    have h2 := wt_rep h n R2 l R1 e
    show 1 + (l.map g).sum + _ ≤ _
    simp only at h1 h2
    omega
theorem sum_one {α : Type} (l : List α) : (l.map fun _ => 1).sum = l.length := by
  induction l with
  | nil => rfl
  | cons x l ih => simp [ih]; omega
theorem sum_more {α : Type} (g : α → Nat) (l : List α) : (l.map fun x => 1 + g x).sum = l.length + (l.map g).sum := by
  induction l with
  | nil => rfl
  | cons x l ih => simp only [List.map_cons, List.sum_cons, List.length_cons, ih]; omega
theorem wt_nums : Wt (qList qNum) (fun l => 1 + l.length) := wt_weak (wt_list wt_num) fun l => by rw [sum_one]; omega
theorem wt_text : Wt qText (fun s => 1 + s.size) := fun R s R1 e => by
  unfold qText at e
  cases hl : qLen R with
  | none => rw [hl] at e; cases e
  | some y =>
    obtain ⟨n, R2⟩ := y
    have h1 := wt_len R n R2 hl
    have hn : n ≤ R2.length := by
      unfold qLen at hl
      cases hn : qNum R with
      | none => rw [hn] at hl; cases hl
      | some z =>
        obtain ⟨i, R3⟩ := z
        rw [hn] at hl
        simp only at hl
        split at hl
        · rename_i hc
          cases hl
          omega
        · cases hl
    rw [hl] at e
    cases e
    show 1 + (strOfNums (R2.take n)).size + _ ≤ _
    rw [size_of, List.length_take, List.length_drop]
    simp only at h1
    omega
theorem wt_then {α β γ : Type} {p : Pr α} {q : Pr β} {f : α → β → γ} {g : α → Nat} {g' : β → Nat} {G : γ → Nat} (h1 : Wt p g) (h2 : Wt q g') (hG : ∀ x y, G (f x y) ≤ g x + g' y) : Wt (qThen p q f) G := fun R z R1 e => by
  unfold qThen at e
  cases hp : p R with
  | none => rw [hp] at e; cases e
  | some y =>
    obtain ⟨x, R2⟩ := y
    rw [hp] at e
    simp only at e
    cases hq : q R2 with
    | none => rw [hq] at e; cases e
    | some u =>
      obtain ⟨u, R3⟩ := u
      rw [hq] at e
      cases e
      have e1 := h1 R x R2 hp
      have e2 := h2 R2 u R1 hq
      have e3 := hG x u
      omega
theorem wt_Ty : Wt qTy (fun t => 1 + wTy t) := wt_then wt_num wt_nums fun x y => by unfold wTy; simp only; omega
theorem wt_Sh : Wt qSh (fun t => 1 + wSh t) := wt_then (g' := fun p => 2 + p.1.length + p.2.size) wt_num (wt_then wt_nums wt_text fun x y => by simp only; omega) fun x y => by unfold wSh; simp only; omega
theorem wt_field (x : Ins) (c : UInt8) {R : List Int} {y : Ins} {R1 : List Int} (h : qField x c R = some (y, R1)) : wIns y + R1.length ≤ wIns x + R.length := by
  have key : ∀ {α : Type} {p : Pr α} {f : α → Ins} {g : α → Nat}, Wt p g → qMap p f R = some (y, R1) → (∀ n, wIns (f n) ≤ wIns x + g n) → wIns y + R1.length ≤ wIns x + R.length := fun {α} {p} {f} {g} hw h hf => by
    unfold qMap at h
    cases hp : p R with
    | none => rw [hp] at h; cases h
    | some v =>
      obtain ⟨v, R2⟩ := v
      rw [hp] at h
      cases h
      have h1 := hw R v R1 hp
      have h2 := hf v
      omega
  unfold qField at h
  split at h
  · exact key wt_num h (fun n => by unfold wIns; simp only; omega)
  · split at h
    · exact key wt_num h (fun n => by unfold wIns; simp only; omega)
    · split at h
      · exact key wt_num h (fun n => by unfold wIns; simp only; omega)
      · split at h
        · exact key wt_num h (fun n => by unfold wIns; simp only; omega)
        · split at h
          · exact key wt_num h (fun n => by unfold wIns; simp only; omega)
          · split at h
            · exact key wt_nums h (fun n => by unfold wIns; simp only; omega)
            · split at h
              · exact key wt_nums h (fun n => by unfold wIns; simp only; omega)
              · exact key wt_nums h (fun n => by unfold wIns; simp only; omega)
theorem wt_fields : ∀ (u : List UInt8) (x y : Ins) (R R1 : List Int), qFields u x R = some (y, R1) → wIns y + R1.length ≤ wIns x + R.length
  | [], x, y, R, R1, h => by cases h; exact Nat.le_refl _
  | c :: u, x, y, R, R1, h => by
    simp only [qFields] at h
    cases hf : qField x c R with
    | none => rw [hf] at h; cases h
    | some v =>
      obtain ⟨v, R2⟩ := v
      rw [hf] at h
      have h1 := wt_field x c hf
      have h2 := wt_fields u v y R2 R1 h
      omega
theorem wt_Ins : Wt qIns (fun x => 1 + wIns x) := fun R x R1 h => by
  unfold qIns at h
  cases hn : qNum R with
  | none => rw [hn] at h; cases h
  | some y =>
    obtain ⟨n, R2⟩ := y
    rw [hn] at h
    simp only at h
    split at h
    · cases h
    · have h1 := wt_num R n R2 hn
      have h2 := wt_fields _ _ _ _ _ h
      have h3 : wIns ⟨n, 0, 0, 0, 0, 0, [], [], []⟩ = 0 := rfl
      simp only at h1 ⊢
      omega
theorem wt_Bk : Wt qBk (fun b => 1 + wBk b) := wt_then wt_nums (wt_list wt_Ins) fun x y => by
  rw [sum_more]
  unfold wBk
  simp only
  omega
theorem wt_Fn : Wt qFn (fun f => 1 + wFn f) := wt_then (g' := fun q => 3 + q.2.2.length + (q.2.2.map wBk).sum) wt_nums (wt_then (g' := fun q => 2 + q.2.length + (q.2.map wBk).sum) wt_num (wt_then wt_num (wt_list wt_Bk) fun x y => by rw [sum_more]; simp only; omega) fun x y => by simp only; omega) fun x y => by
  unfold wFn
  simp only
  omega
theorem wt_Img : Wt qImg wImg :=
  wt_then (g' := fun q => q.1.length + (q.1.map wSh).sum + (q.2.1.length + (q.2.1.map ByteArray.size).sum) + (q.2.2.1.length + (q.2.2.1.map ByteArray.size).sum) + (q.2.2.2.1.length + (q.2.2.2.1.map wFn).sum)) (wt_list wt_Ty)
    (wt_then (g' := fun q => (q.1.length + (q.1.map ByteArray.size).sum) + (q.2.1.length + (q.2.1.map ByteArray.size).sum) + (q.2.2.1.length + (q.2.2.1.map wFn).sum)) (wt_list wt_Sh)
      (wt_then (g' := fun q => (q.1.length + (q.1.map ByteArray.size).sum) + (q.2.1.length + (q.2.1.map wFn).sum)) (wt_list wt_text)
        (wt_then (g' := fun q => (q.1.length + (q.1.map wFn).sum)) (wt_list wt_text)
          (wt_then (g' := fun _ => 2) (wt_list wt_Fn) (wt_then wt_num wt_num fun _ _ => Nat.le_refl _) fun x y => by rw [sum_more]; simp only; omega)
          fun x y => by rw [sum_more]; simp only; omega) fun x y => by rw [sum_more]; simp only; omega) fun x y => by rw [sum_more]; simp only; omega) fun x y => by
  rw [sum_more]
  unfold wImg
  simp only
  omega
end M
end Go.Proofs.YthlifflapgccbaaGreat
