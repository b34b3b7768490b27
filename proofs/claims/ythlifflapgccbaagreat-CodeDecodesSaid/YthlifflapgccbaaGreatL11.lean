/- Lemmas, put together: Pars Pars2 Pars3. -/
import Derived.Test.YthlifflapgccbaaGreatL09
import Derived.Test.YthlifflapgccbaaGreatWrInstr
import Derived.Test.YthlifflapgccbaaGreatL08
/- Images read from their bytes, in lists: what is read was written, and what is written is read. No program in sight. -/
namespace Go.Proofs.YthlifflapgccbaaGreat
set_option linter.unusedVariables false
set_option linter.unusedSimpArgs false
open Go.ChangeShapes Go.WideShapes Go.ChangeAt Go.RowKit
namespace M
/-- A reader: of how many instructions it knows, what is left; what it found, how many then, what is left then. -/
abbrev Par (α : Type) := Nat → List Int → Option (α × Nat × List Int)
def pNum : Par Int := fun z R => match got R with
  | some (x, n) => some (zag x, z, R.drop n)
  | none => none
def pLen (most : Nat) : Par Nat := fun z R => match pNum z R with
  | some (n, z1, R1) => if 0 ≤ n ∧ n ≤ most ∧ n ≤ R1.length then some (n.toNat, z1, R1) else none
  | none => none
def pRep {α : Type} (p : Par α) : Nat → Par (List α)
  | 0 => fun z R => some ([], z, R)
  | n + 1 => fun z R => match p z R with
    | some (x, z1, R1) => match pRep p n z1 R1 with
      | some (l, z2, R2) => some (x :: l, z2, R2)
      | none => none
    | none => none
def pList {α : Type} (most : Nat) (p : Par α) : Par (List α) := fun z R => match pLen most z R with
  | some (n, z1, R1) => pRep p n z1 R1
  | none => none
def pText : Par ByteArray := fun z R => match pLen 16384 z R with
  | some (n, z1, R1) => some (strOfNums (R1.take n), z1, R1.drop n)
  | none => none
def pYes : Par Bool := fun z R => match pNum z R with
  | some (n, z1, R1) => if n = 0 then some (false, z1, R1) else if n = 1 then some (true, z1, R1) else none
  | none => none
def andThen {α β γ : Type} (p : Par α) (q : α → Par β) (f : α → β → γ) : Par γ := fun z R => match p z R with
  | some (x, z1, R1) => match q x z1 R1 with
    | some (y, z2, R2) => some (f x y, z2, R2)
    | none => none
  | none => none
def pTy : Par Ty := andThen pYes (fun _ => pList 512 pNum) Ty.mk
def pSh : Par Sh := andThen pNum (fun _ => andThen (pList 200 pNum) (fun _ => pText) Prod.mk) fun k p => ⟨k, p.1, p.2⟩
def pField (x : Ins) (c : UInt8) : Par Ins :=
  if c = 68 then andThen pNum (fun n z R => some (n, z, R)) (fun n _ => { x with d := n })
  else if c = 65 then andThen pNum (fun n z R => some (n, z, R)) (fun n _ => { x with a := n })
  else if c = 66 then andThen pNum (fun n z R => some (n, z, R)) (fun n _ => { x with b := n })
  else if c = 67 then andThen pNum (fun n z R => some (n, z, R)) (fun n _ => { x with c := n })
  else if c = 78 then andThen pNum (fun n z R => some (n, z, R)) (fun n _ => { x with n := n })
  else if c = 76 then andThen (pList 1024 pNum) (fun n z R => some (n, z, R)) (fun n _ => { x with l := n })
  else if c = 77 then andThen (pList 1024 pNum) (fun n z R => some (n, z, R)) (fun n _ => { x with m := n })
  else andThen (pList 200 pNum) (fun n z R => some (n, z, R)) (fun n _ => { x with v := n })
def pFields : List UInt8 → Ins → Par Ins
  | [], x => fun z R => some (x, z, R)
  | c :: u, x => fun z R => match pField x c z R with
    | some (y, z1, R1) => pFields u y z1 R1
    | none => none
def pIns : Par Ins := fun z R => match pNum z R with
  | some (op, z1, R1) => pFields (uses op).data.toList ⟨op, 0, 0, 0, 0, 0, [], [], []⟩ z1 R1
  | none => none
def pCode : Par (List Ins) := fun z R => match pList (20000 - z) pIns z R with
  | some (l, z1, R1) => some (l, z1 + l.length, R1)
  | none => none
def pBk : Par Bk := andThen (pList 200 pNum) (fun _ => pCode) Bk.mk
def pFn : Par Fn := andThen (pList 200 pNum) (fun _ => andThen pNum (fun _ => andThen pNum (fun _ => pList 2000 pBk) Prod.mk) Prod.mk) fun p q => ⟨p, q.1, q.2.1, q.2.2⟩
def pImg : Par Img := andThen (pList 1024 pTy) (fun _ => andThen (pList 512 pSh) (fun _ => andThen (pList 256 pText) (fun _ => andThen (pList 256 pText) (fun _ => andThen (pList 1024 pFn) (fun _ => andThen pNum (fun _ => pNum) Prod.mk) Prod.mk) Prod.mk) Prod.mk) Prod.mk) fun t q => ⟨t, q.1, q.2.1, q.2.2.1, q.2.2.2.1, q.2.2.2.2.1, q.2.2.2.2.2⟩
def Bytes (l : List Int) : Prop := ∀ c ∈ l, 0 ≤ c ∧ c ≤ 255
theorem Bytes.drop {l : List Int} (h : Bytes l) (n : Nat) : Bytes (l.drop n) := fun c hc => h c (List.mem_of_mem_drop hc)
theorem Bytes.right {l m : List Int} (h : Bytes (l ++ m)) : Bytes m := fun c hc => h c (List.mem_append.2 (.inr hc))
/-- What p finds f writes, and it is in order. -/
def Snd {α : Type} (p : Par α) (f : α → List Int) (P : α → Prop) : Prop := ∀ z R x z1 R1, Bytes R → p z R = some (x, z1, R1) → R = f x ++ R1 ∧ P x
theorem stop_some : ∀ (k : Nat) (R : List Int) (i : Nat), stop k R = some i → i < R.length ∧ i < k ∧ (∀ j, j < i → ∀ c, R[j]? = some c → 128 ≤ c) ∧ ∃ c, R[i]? = some c ∧ c < 128
  | 0, R, i, h => by simp [stop] at h
  | k + 1, [], i, h => by simp [stop] at h
  | k + 1, c :: R, i, h => by
    unfold stop at h
    split at h
    · simp at h
      subst h
      exact ⟨by simp, by omega, fun j hj => by omega, c, by simp, by assumption⟩
    · obtain ⟨j, hj, rfl⟩ := Option.map_eq_some_iff.1 h
      obtain ⟨h1, h2, h3, d, h4, h5⟩ := stop_some k R j hj
      refine ⟨by simp; omega, by omega, fun q hq e he => ?_, d, by simpa using h4, h5⟩
      cases q with
      | zero => simp at he; subst he; omega
      | succ q => exact h3 q (by omega) e (by simpa using he)
theorem form_of : ∀ (p : List Int) (c : Int), (∀ e ∈ p, 128 ≤ e ∧ e ≤ 255) → 0 ≤ c → c < 128 → form (p ++ [c])
  | [], c, _, h0, h1 => ⟨h0, h1⟩
  | e :: p, c, h, h0, h1 => by
    have hf := form_of p c (fun x hx => h x (by simp [hx])) h0 h1
    have he := h e (by simp)
    cases p with
    | nil => exact ⟨he.1, he.2, hf⟩
    | cons d q => exact ⟨he.1, he.2, hf⟩
theorem val_bd : ∀ (p : List Int), val p < 128 ^ p.length
  | [] => by simp [val]
  | c :: p => by
    have := val_bd p
    have h1 : c.toNat % 128 < 128 := Nat.mod_lt _ (by decide)
    simp only [val, List.length_cons, Nat.pow_succ]
    omega
theorem val_app : ∀ (p : List Int) (c : Int), val (p ++ [c]) = val p + 128 ^ p.length * (c.toNat % 128)
  | [], c => by simp [val]
  | d :: p, c => by
    simp only [List.cons_append, val, List.length_cons, Nat.pow_succ, val_app p c, Nat.mul_add]
    have : 128 * (128 ^ p.length * (c.toNat % 128)) = 128 ^ p.length * 128 * (c.toNat % 128) := by rw [← Nat.mul_assoc, Nat.mul_comm 128]
    omega
theorem got_snd {R : List Int} {x n : Nat} (hb : Bytes R) (h : got R = some (x, n)) : R.take n = enc x ∧ n ≤ R.length ∧ x < 18446744073709551616 := by
  unfold got at h
  split at h
  · cases h
  · rename_i i hi
    obtain ⟨h1, h2, h3, c, h4, h5⟩ := stop_some 10 R i hi
    split at h
    · rename_i hf
      simp only [Option.some.injEq, Prod.mk.injEq] at h
      obtain ⟨rfl, rfl⟩ := h
      have hc0 : 0 ≤ c := (hb c (List.mem_of_getElem? h4)).1
      have ht : R.take (i + 1) = R.take i ++ [c] := by rw [List.take_add_one, h4]; rfl
      rw [ht] at hf ⊢
      have hlen : (R.take i).length = i := by rw [List.length_take]; omega
      have h8 : ∀ e ∈ R.take i, 128 ≤ e ∧ e ≤ 255 := fun e he => by
        obtain ⟨j, hj, rfl⟩ := List.getElem_of_mem he
        rw [hlen] at hj
        have hj2 : R[j]? = some ((R.take i)[j]'(by rw [hlen]; exact hj)) := by rw [List.getElem_take, List.getElem?_eq_getElem (by omega)]
        exact ⟨h3 j hj _ hj2, (hb _ (List.mem_of_getElem? hj2)).2⟩
      have hlast : (R.take i ++ [c]).getLast? = some c := by simp
      unfold fits at hf
      rw [hlast] at hf
      simp only [List.length_append, List.length_singleton, hlen, Bool.and_eq_true, Bool.or_eq_true, decide_eq_true_eq, bne_iff_ne, ne_eq, Option.some.injEq, Option.getD_some] at hf
      have hv := val_bd (R.take i)
      have hm : c.toNat % 128 = c.toNat := Nat.mod_eq_of_lt (by omega)
      refine ⟨(enc_val _ (form_of _ c h8 hc0 h5) ?_).symm, by omega, ?_⟩
      · rw [hlast]
        simp only [List.length_append, List.length_singleton, hlen]
        rcases hf.1 with h | h
        · exact .inl h
        · exact .inr (fun e => h (by injection e))
      · rw [val_app, hm, hlen]
        rw [hlen] at hv
        rcases hf.2 with h | h
        · have : (128 : Nat) ^ i * c.toNat ≤ 128 ^ i * 127 := Nat.mul_le_mul_left _ (by omega)
          have h2 : (128 : Nat) ^ i ≤ 128 ^ 8 := Nat.pow_le_pow_right (by decide) (by omega)
          have h3 : (128 : Nat) ^ 8 = 72057594037927936 := by decide
          omega
        · have : (128 : Nat) ^ i * c.toNat ≤ 128 ^ i * 1 := Nat.mul_le_mul_left _ (by omega)
          have h2 : (128 : Nat) ^ i ≤ 128 ^ 9 := Nat.pow_le_pow_right (by decide) (by omega)
          have h3 : (128 : Nat) ^ 9 = 9223372036854775808 := by decide
          omega
    · cases h
theorem snd_num : Snd pNum num In64 := fun z R x z1 R1 hb h => by
  unfold pNum at h
  split at h
  · rename_i y n hg
    simp only [Option.some.injEq, Prod.mk.injEq] at h
    obtain ⟨rfl, rfl, rfl⟩ := h
    obtain ⟨h1, h2, h3⟩ := got_snd hb hg
    refine ⟨?_, zag_bd h3⟩
    unfold num
    rw [zig_zag, ← h1, List.take_append_drop]
  · cases h
theorem snd_rep {α : Type} {p : Par α} {f : α → List Int} {P : α → Prop} (hp : Snd p f P) : ∀ n z R l z1 R1, Bytes R → pRep p n z R = some (l, z1, R1) → R = l.flatMap f ++ R1 ∧ l.length = n ∧ ∀ x ∈ l, P x
  | 0, z, R, l, z1, R1, hb, h => by
    simp only [pRep, Option.some.injEq, Prod.mk.injEq] at h
    obtain ⟨rfl, rfl, rfl⟩ := h
    exact ⟨by simp, rfl, fun x hx => by simp at hx⟩
  | n + 1, z, R, l, z1, R1, hb, h => by
    simp only [pRep] at h
    split at h
    · rename_i x z2 R2 h1
      split at h
      · rename_i l2 z3 R3 h2
        simp only [Option.some.injEq, Prod.mk.injEq] at h
        obtain ⟨rfl, rfl, rfl⟩ := h
        obtain ⟨rfl, k2⟩ := hp _ _ _ _ _ hb h1
        obtain ⟨e, k3, k4⟩ := snd_rep hp n _ _ _ _ _ hb.right h2
        refine ⟨by rw [e]; simp [List.append_assoc], by simp [k3], fun y hy => ?_⟩
        rcases List.mem_cons.1 hy with rfl | hy
        · exact k2
        · exact k4 y hy
      · cases h
    · cases h
theorem pLen_some {most z : Nat} {R : List Int} {n z1 : Nat} {R1 : List Int} (h : pLen most z R = some (n, z1, R1)) : pNum z R = some ((n : Int), z1, R1) ∧ n ≤ most ∧ n ≤ R1.length := by
  unfold pLen at h
  split at h
  · rename_i k z2 R2 h1
    split at h
    · rename_i hk
      simp only [Option.some.injEq, Prod.mk.injEq] at h
      obtain ⟨rfl, rfl, rfl⟩ := h
      obtain ⟨k0, k1, k2⟩ := hk
      refine ⟨by rw [h1, Int.toNat_of_nonneg k0], by omega, by omega⟩
    · cases h
  · cases h
theorem snd_list {α : Type} {p : Par α} {f : α → List Int} {P : α → Prop} (hp : Snd p f P) (most : Nat) : Snd (pList most p) (many f) (fun l => l.length ≤ most ∧ ∀ x ∈ l, P x) := fun z R l z1 R1 hb h => by
  unfold pList at h
  split at h
  · rename_i n z2 R2 h1
    obtain ⟨k1, k2, k3⟩ := pLen_some h1
    obtain ⟨rfl, _⟩ := snd_num _ _ _ _ _ hb k1
    obtain ⟨e, k4, k5⟩ := snd_rep hp n _ _ _ _ _ hb.right h
    refine ⟨by rw [e]; unfold many; rw [k4, List.append_assoc], by omega, k5⟩
  · cases h
theorem chars_of {l : List Int} (h : Bytes l) : chars (strOfNums l) = l := by
  have e : (strOfNums l).data.toList = l.map fun n => UInt8.ofNat n.toNat := by
    unfold strOfNums
    simp
  unfold chars
  rw [e, List.map_map]
  refine (List.map_congr_left (fun c hc => ?_)).trans (List.map_id l)
  have := h c hc
  simp
  omega
theorem size_of (l : List Int) : (strOfNums l).size = l.length := by
  have e : (strOfNums l).data.toList = l.map fun n => UInt8.ofNat n.toNat := by
    unfold strOfNums
    simp
  have : (strOfNums l).data.toList.length = l.length := by rw [e, List.length_map]
  rw [Array.length_toList] at this
  exact this
theorem snd_text : Snd pText text (fun s => s.size ≤ 16384) := fun z R s z1 R1 hb h => by
  unfold pText at h
  split at h
  · rename_i n z2 R2 h1
    simp only [Option.some.injEq, Prod.mk.injEq] at h
    obtain ⟨rfl, rfl, rfl⟩ := h
    obtain ⟨k1, k2, k3⟩ := pLen_some h1
    obtain ⟨rfl, _⟩ := snd_num _ _ _ _ _ hb k1
    have hbt : Bytes (R2.take n) := fun c hc => hb.right c (List.mem_of_mem_take hc)
    have hln : (R2.take n).length = n := by rw [List.length_take]; omega
    refine ⟨?_, by show (strOfNums (R2.take n)).size ≤ 16384; rw [size_of, hln]; exact k2⟩
    unfold text
    rw [size_of, hln, chars_of hbt, List.append_assoc, List.take_append_drop]
  · cases h
theorem snd_yes : Snd pYes (fun b => num (if b then 1 else 0)) (fun _ => True) := fun z R b z1 R1 hb h => by
  unfold pYes at h
  split at h
  · rename_i n z2 R2 h1
    obtain ⟨rfl, _⟩ := snd_num _ _ _ _ _ hb h1
    split at h
    · simp only [Option.some.injEq, Prod.mk.injEq] at h
      obtain ⟨rfl, rfl, rfl⟩ := h
      rename_i hn; subst hn
      exact ⟨rfl, trivial⟩
    · split at h
      · simp only [Option.some.injEq, Prod.mk.injEq] at h
        obtain ⟨rfl, rfl, rfl⟩ := h
        rename_i hn; subst hn
        exact ⟨rfl, trivial⟩
      · cases h
  · cases h
theorem snd_then {α β γ : Type} {p : Par α} {q : α → Par β} {f : α → List Int} {g : β → List Int} {P : α → Prop} {Q : β → Prop} (hp : Snd p f P) (hq : ∀ x, Snd (q x) g Q) (F : α → β → γ) {z : Nat} {R : List Int} {y : γ} {z1 : Nat} {R1 : List Int} (hb : Bytes R) (h : andThen p q F z R = some (y, z1, R1)) :
    ∃ a b, y = F a b ∧ R = f a ++ (g b ++ R1) ∧ P a ∧ Q b := by
  unfold andThen at h
  split at h
  · rename_i a z2 R2 h1
    split at h
    · rename_i b z3 R3 h2
      simp only [Option.some.injEq, Prod.mk.injEq] at h
      obtain ⟨rfl, rfl, rfl⟩ := h
      obtain ⟨rfl, k1⟩ := hp _ _ _ _ _ hb h1
      obtain ⟨rfl, k2⟩ := hq a _ _ _ _ _ hb.right h2
      exact ⟨a, b, rfl, rfl, k1, k2⟩
    · cases h
  · cases h
end M
end Go.Proofs.YthlifflapgccbaaGreat
/- Images read from their bytes, in lists: the parts and the whole. No program in sight. -/
namespace Go.Proofs.YthlifflapgccbaaGreat
set_option linter.unusedVariables false
set_option linter.unusedSimpArgs false
open Go.ChangeShapes Go.WideShapes Go.ChangeAt Go.RowKit
namespace M
theorem snd_ret {α : Type} (a : α) : Snd (fun z R => some (a, z, R) : Par α) (fun _ => []) (fun _ => True) := fun z R x z1 R1 hb h => by
  simp only [Option.some.injEq, Prod.mk.injEq] at h
  obtain ⟨rfl, rfl, rfl⟩ := h
  exact ⟨rfl, trivial⟩
theorem snd_Ty : Snd pTy bTy okTy := fun z R x z1 R1 hb h => by
  obtain ⟨a, b, rfl, rfl, _, k⟩ := snd_then snd_yes (fun _ => snd_list snd_num 512) Ty.mk hb h
  exact ⟨by unfold bTy nums; simp only [List.append_assoc], ⟨Nat.le_trans k.1 (by unfold maxLen; omega), k.2⟩⟩
theorem snd_Sh : Snd pSh bSh okSh := fun z R x z1 R1 hb h => by
  obtain ⟨a, b, rfl, rfl, k1, k2⟩ := snd_then snd_num (fun _ => fun z R y z1 R1 hb h => (show R = (fun p : List Int × ByteArray => nums p.1 ++ text p.2) y ++ R1 ∧ (y.1.length ≤ 200 ∧ ∀ x ∈ y.1, In64 x) ∧ y.2.size ≤ 16384 from by
    obtain ⟨c, d, rfl, rfl, k1, k2⟩ := snd_then (snd_list snd_num 200) (fun _ => snd_text) Prod.mk hb h
    exact ⟨by simp only [nums, List.append_assoc], k1, k2⟩)) (fun k p => (⟨k, p.1, p.2⟩ : Sh)) hb h
  exact ⟨by unfold bSh; simp only [List.append_assoc], k1, ⟨Nat.le_trans k2.1.1 (by unfold maxLen; omega), k2.1.2⟩, Nat.le_trans k2.2 (by unfold maxLen; omega)⟩
/-- An instruction with one field more: all its numbers are in order. -/
def okI (x : Ins) : Prop := (In64 x.op ∧ In64 x.d ∧ In64 x.a ∧ In64 x.b ∧ In64 x.c ∧ In64 x.n) ∧ okNums x.l ∧ okNums x.m ∧ okNums x.v
/-- What a letter's field is set to; all other fields stay. -/
def sets (x y : Ins) (c : UInt8) : Prop := y.op = x.op ∧ (c ≠ 68 → y.d = x.d) ∧ (c ≠ 65 → y.a = x.a) ∧ (c ≠ 66 → y.b = x.b) ∧ (c ≠ 67 → y.c = x.c) ∧ (c ≠ 78 → y.n = x.n) ∧ (c ≠ 76 → y.l = x.l) ∧ (c ≠ 77 → y.m = x.m) ∧ ((c = 68 ∨ c = 65 ∨ c = 66 ∨ c = 67 ∨ c = 78 ∨ c = 76 ∨ c = 77) → y.v = x.v)
theorem snd_field {x : Ins} (hx : okI x) {c : UInt8} {z : Nat} {R : List Int} {y : Ins} {z1 : Nat} {R1 : List Int} (hb : Bytes R) (h : pField x c z R = some (y, z1, R1)) : R = field y c ++ R1 ∧ okI y ∧ sets x y c := by
  obtain ⟨⟨o0, o1, o2, o3, o4, o5⟩, o6, o7, o8⟩ := hx
  unfold pField at h
  unfold field sets
  by_cases k1 : c = 68
  · simp only [if_pos k1] at h ⊢
    obtain ⟨a, b, rfl, rfl, k, _⟩ := snd_then snd_num snd_ret _ hb h
    subst k1
    exact ⟨by simp, ⟨⟨o0, k, o2, o3, o4, o5⟩, o6, o7, o8⟩, by simp⟩
  simp only [if_neg k1] at h ⊢
  by_cases k2 : c = 65
  · simp only [if_pos k2] at h ⊢
    obtain ⟨a, b, rfl, rfl, k, _⟩ := snd_then snd_num snd_ret _ hb h
    subst k2
    exact ⟨by simp, ⟨⟨o0, o1, k, o3, o4, o5⟩, o6, o7, o8⟩, by simp⟩
  simp only [if_neg k2] at h ⊢
  by_cases k3 : c = 66
  · simp only [if_pos k3] at h ⊢
    obtain ⟨a, b, rfl, rfl, k, _⟩ := snd_then snd_num snd_ret _ hb h
    subst k3
    exact ⟨by simp, ⟨⟨o0, o1, o2, k, o4, o5⟩, o6, o7, o8⟩, by simp⟩
  simp only [if_neg k3] at h ⊢
  by_cases k4 : c = 67
  · simp only [if_pos k4] at h ⊢
    obtain ⟨a, b, rfl, rfl, k, _⟩ := snd_then snd_num snd_ret _ hb h
    subst k4
    exact ⟨by simp, ⟨⟨o0, o1, o2, o3, k, o5⟩, o6, o7, o8⟩, by simp⟩
  simp only [if_neg k4] at h ⊢
  by_cases k5 : c = 78
  · simp only [if_pos k5] at h ⊢
    obtain ⟨a, b, rfl, rfl, k, _⟩ := snd_then snd_num snd_ret _ hb h
    subst k5
    exact ⟨by simp, ⟨⟨o0, o1, o2, o3, o4, k⟩, o6, o7, o8⟩, by simp⟩
  simp only [if_neg k5] at h ⊢
  by_cases k6 : c = 76
  · simp only [if_pos k6] at h ⊢
    obtain ⟨a, b, rfl, rfl, k, _⟩ := snd_then (snd_list snd_num 1024) snd_ret _ hb h
    subst k6
    exact ⟨by simp [nums], ⟨⟨o0, o1, o2, o3, o4, o5⟩, ⟨Nat.le_trans k.1 (by unfold maxLen; omega), k.2⟩, o7, o8⟩, by simp⟩
  simp only [if_neg k6] at h ⊢
  by_cases k7 : c = 77
  · simp only [if_pos k7] at h ⊢
    obtain ⟨a, b, rfl, rfl, k, _⟩ := snd_then (snd_list snd_num 1024) snd_ret _ hb h
    subst k7
    exact ⟨by simp [nums], ⟨⟨o0, o1, o2, o3, o4, o5⟩, o6, ⟨Nat.le_trans k.1 (by unfold maxLen; omega), k.2⟩, o8⟩, by simp⟩
  simp only [if_neg k7] at h ⊢
  obtain ⟨a, b, rfl, rfl, k, _⟩ := snd_then (snd_list snd_num 200) snd_ret _ hb h
  refine ⟨by simp [nums], ⟨⟨o0, o1, o2, o3, o4, o5⟩, o6, o7, ⟨Nat.le_trans k.1 (by unfold maxLen; omega), k.2⟩⟩, rfl, fun _ => rfl, fun _ => rfl, fun _ => rfl, fun _ => rfl, fun _ => rfl, fun _ => rfl, fun _ => rfl, fun h => ?_⟩
  rcases h with h | h | h | h | h | h | h
  · exact absurd h k1
  · exact absurd h k2
  · exact absurd h k3
  · exact absurd h k4
  · exact absurd h k5
  · exact absurd h k6
  · exact absurd h k7
/-- A letter's field is what it was, where only other letters were set. -/
theorem field_of_sets {x y : Ins} {c d : UInt8} (h : sets x y c) (hd : d = 68 ∨ d = 65 ∨ d = 66 ∨ d = 67 ∨ d = 78 ∨ d = 76 ∨ d = 77 ∨ d = 108) (hc : c = 68 ∨ c = 65 ∨ c = 66 ∨ c = 67 ∨ c = 78 ∨ c = 76 ∨ c = 77 ∨ c = 108) (hne : d ≠ c) : field y d = field x d := by
  obtain ⟨s0, s1, s2, s3, s4, s5, s6, s7, s8⟩ := h
  unfold field
  rcases hd with rfl | rfl | rfl | rfl | rfl | rfl | rfl | rfl
  · rw [if_pos rfl, if_pos rfl, s1 hne.symm]
  · simp only [show ¬ (65 : UInt8) = 68 by decide, if_false, if_true]; rw [s2 hne.symm]
  · simp only [show ¬ (66 : UInt8) = 68 by decide, show ¬ (66 : UInt8) = 65 by decide, if_false, if_true]; rw [s3 hne.symm]
  · simp only [show ¬ (67 : UInt8) = 68 by decide, show ¬ (67 : UInt8) = 65 by decide, show ¬ (67 : UInt8) = 66 by decide, if_false, if_true]; rw [s4 hne.symm]
  · simp only [show ¬ (78 : UInt8) = 68 by decide, show ¬ (78 : UInt8) = 65 by decide, show ¬ (78 : UInt8) = 66 by decide, show ¬ (78 : UInt8) = 67 by decide, if_false, if_true]; rw [s5 hne.symm]
  · simp only [show ¬ (76 : UInt8) = 68 by decide, show ¬ (76 : UInt8) = 65 by decide, show ¬ (76 : UInt8) = 66 by decide, show ¬ (76 : UInt8) = 67 by decide, show ¬ (76 : UInt8) = 78 by decide, if_false, if_true]; rw [s6 hne.symm]
  · simp only [show ¬ (77 : UInt8) = 68 by decide, show ¬ (77 : UInt8) = 65 by decide, show ¬ (77 : UInt8) = 66 by decide, show ¬ (77 : UInt8) = 67 by decide, show ¬ (77 : UInt8) = 78 by decide, show ¬ (77 : UInt8) = 76 by decide, if_false, if_true]; rw [s7 hne.symm]
  · simp only [show ¬ (108 : UInt8) = 68 by decide, show ¬ (108 : UInt8) = 65 by decide, show ¬ (108 : UInt8) = 66 by decide, show ¬ (108 : UInt8) = 67 by decide, show ¬ (108 : UInt8) = 78 by decide, show ¬ (108 : UInt8) = 76 by decide, show ¬ (108 : UInt8) = 77 by decide, if_false]
    rw [s8 (by rcases hc with h | h | h | h | h | h | h | h <;> simp_all)]
theorem snd_fields : ∀ (u : List UInt8) (x : Ins) (z : Nat) (R : List Int) (y : Ins) (z1 : Nat) (R1 : List Int), u.Nodup → (∀ c ∈ u, c = 68 ∨ c = 65 ∨ c = 66 ∨ c = 67 ∨ c = 78 ∨ c = 76 ∨ c = 77 ∨ c = 108) → okI x → Bytes R → pFields u x z R = some (y, z1, R1) →
    R = u.flatMap (field y) ++ R1 ∧ okI y ∧ y.op = x.op ∧ ∀ d, (d = 68 ∨ d = 65 ∨ d = 66 ∨ d = 67 ∨ d = 78 ∨ d = 76 ∨ d = 77 ∨ d = 108) → d ∉ u → field y d = field x d
  | [], x, z, R, y, z1, R1, _, _, hx, hb, h => by
    simp only [pFields, Option.some.injEq, Prod.mk.injEq] at h
    obtain ⟨rfl, rfl, rfl⟩ := h
    exact ⟨by simp, hx, rfl, fun _ _ _ => rfl⟩
  | c :: u, x, z, R, y, z1, R1, hn, hu, hx, hb, h => by
    simp only [pFields] at h
    split at h
    · rename_i x2 z2 R2 h1
      obtain ⟨rfl, hx2, hs⟩ := snd_field hx hb h1
      have hn2 := List.nodup_cons.1 hn
      obtain ⟨rfl, hy, ho, hf⟩ := snd_fields u x2 _ _ _ _ _ hn2.2 (fun d hd => hu d (by simp [hd])) hx2 hb.right h
      refine ⟨?_, hy, ho.trans hs.1, fun d hd hdu => ?_⟩
      · rw [List.flatMap_cons, hf c (hu c (by simp)) hn2.1, List.append_assoc]
      · rw [hf d hd (fun e => hdu (by simp [e])), field_of_sets hs hd (hu c (by simp)) (fun e => hdu (by simp [e]))]
    · cases h
theorem uses_nodup (op : Int) : (uses op).data.toList.Nodup := by
  unfold uses
  split <;> decide
theorem snd_Ins : Snd pIns bIns okI := fun z R x z1 R1 hb h => by
  unfold pIns at h
  split at h
  · rename_i op z2 R2 h1
    obtain ⟨rfl, ho⟩ := snd_num _ _ _ _ _ hb h1
    have z0 : In64 0 := by constructor <;> decide
    have e0 : okNums [] := ⟨Nat.zero_le _, fun x hx => by simp at hx⟩
    obtain ⟨rfl, k1, k2, _⟩ := snd_fields _ _ _ _ _ _ _ (uses_nodup op) (uses_letters op) ⟨⟨ho, z0, z0, z0, z0, z0⟩, e0, e0, e0⟩ hb.right h
    refine ⟨?_, k1⟩
    unfold bIns
    rw [k2, List.append_assoc]
  · cases h
def okB (b : Bk) : Prop := okNums b.inn ∧ b.code.length ≤ maxLen ∧ ∀ x ∈ b.code, okI x
def okF (f : Fn) : Prop := okNums f.params ∧ In64 f.result ∧ In64 f.slots ∧ f.blocks.length ≤ maxLen ∧ ∀ b ∈ f.blocks, okB b
theorem snd_Code : Snd pCode (many bIns) (fun l => l.length ≤ 20000 ∧ ∀ x ∈ l, okI x) := fun z R x z1 R1 hb h => by
  unfold pCode at h
  split at h
  · rename_i l z2 R2 h1
    simp only [Option.some.injEq, Prod.mk.injEq] at h
    obtain ⟨rfl, rfl, rfl⟩ := h
    obtain ⟨e, k1, k2⟩ := snd_list snd_Ins _ _ _ _ _ _ hb h1
    exact ⟨e, by omega, k2⟩
  · cases h
theorem snd_Bk : Snd pBk bBk okB := fun z R x z1 R1 hb h => by
  obtain ⟨a, b, rfl, rfl, k1, k2⟩ := snd_then (snd_list snd_num 200) (fun _ => snd_Code) Bk.mk hb h
  exact ⟨by unfold bBk nums; simp only [List.append_assoc], ⟨Nat.le_trans k1.1 (by unfold maxLen; omega), k1.2⟩, Nat.le_trans k2.1 (by unfold maxLen; omega), k2.2⟩
theorem snd_pair {α β : Type} {p : Par α} {q : Par β} {f : α → List Int} {g : β → List Int} {P : α → Prop} {Q : β → Prop} (hp : Snd p f P) (hq : Snd q g Q) : Snd (andThen p (fun _ => q) Prod.mk) (fun y => f y.1 ++ g y.2) (fun y => P y.1 ∧ Q y.2) := fun z R x z1 R1 hb h => by
  obtain ⟨a, b, rfl, rfl, k1, k2⟩ := snd_then hp (fun _ => hq) Prod.mk hb h
  exact ⟨by simp only [List.append_assoc], k1, k2⟩
theorem snd_Fn : Snd pFn bFn okF := fun z R x z1 R1 hb h => by
  obtain ⟨a, b, rfl, rfl, k1, k2, k3, k4⟩ := snd_then (snd_list snd_num 200) (fun _ => snd_pair snd_num (snd_pair snd_num (snd_list snd_Bk 2000))) (fun p (q : Int × Int × List Bk) => (⟨p, q.1, q.2.1, q.2.2⟩ : Fn)) hb h
  exact ⟨by unfold bFn nums; simp only [List.append_assoc], ⟨Nat.le_trans k1.1 (by unfold maxLen; omega), k1.2⟩, k2, k3, Nat.le_trans k4.1 (by unfold maxLen; omega), k4.2⟩
theorem snd_Img : Snd pImg bImg (fun m => (m.types.length ≤ 1024 ∧ ∀ t ∈ m.types, okTy t) ∧ (m.shapes.length ≤ 512 ∧ ∀ t ∈ m.shapes, okSh t) ∧ (m.strings.length ≤ 256 ∧ ∀ t ∈ m.strings, t.size ≤ 16384) ∧ (m.names.length ≤ 256 ∧ ∀ t ∈ m.names, t.size ≤ 16384) ∧ (m.funcs.length ≤ 1024 ∧ ∀ f ∈ m.funcs, okF f) ∧ In64 m.main ∧ In64 m.exn) := fun z R x z1 R1 hb h => by
  obtain ⟨a, b, rfl, rfl, k1, k2, k3, k4, k5, k6, k7⟩ := snd_then (snd_list snd_Ty 1024) (fun _ => snd_pair (snd_list snd_Sh 512) (snd_pair (snd_list snd_text 256) (snd_pair (snd_list snd_text 256) (snd_pair (snd_list snd_Fn 1024) (snd_pair snd_num snd_num))))) (fun t (q : List Sh × List ByteArray × List ByteArray × List Fn × Int × Int) => (⟨t, q.1, q.2.1, q.2.2.1, q.2.2.2.1, q.2.2.2.2.1, q.2.2.2.2.2⟩ : Img)) hb h
  exact ⟨by unfold bImg; simp only [List.append_assoc], k1, k2, k3, k4, k5, k6, k7⟩
/-! what is written is read -/
theorem cmp_num {x : Int} (h : In64 x) (z : Nat) (R : List Int) : pNum z (num x ++ R) = some (x, z, R) := by
  unfold pNum num
  rw [got_enc (zig_lt h.1 h.2)]
  simp [zag_zig]
theorem cmp_len {n most : Nat} (hn : n ≤ most) (hm : n ≤ maxLen) (z : Nat) {R : List Int} (hr : n ≤ R.length) : pLen most z (num n ++ R) = some (n, z, R) := by
  unfold pLen
  rw [cmp_num (num_nat hm)]
  simp only
  rw [if_pos ⟨by omega, by omega, by omega⟩]
  simp
theorem cmp_rep {α : Type} {p : Par α} {f : α → List Int} {P : α → Prop} (hp : ∀ z x R, P x → p z (f x ++ R) = some (x, z, R)) : ∀ (l : List α) (z : Nat) (R : List Int), (∀ x ∈ l, P x) → pRep p l.length z (l.flatMap f ++ R) = some (l, z, R)
  | [], z, R, _ => by simp [pRep]
  | x :: l, z, R, h => by
    simp only [List.length_cons, pRep, List.flatMap_cons, List.append_assoc]
    rw [hp z x _ (h x (by simp))]
    simp only
    rw [cmp_rep hp l z R (fun y hy => h y (by simp [hy]))]
theorem flat_long {α : Type} {f : α → List Int} (hf : ∀ x, 1 ≤ (f x).length) : ∀ (l : List α), l.length ≤ (l.flatMap f).length
  | [] => by simp
  | x :: l => by have := hf x; have := flat_long hf l; simp only [List.flatMap_cons, List.length_append, List.length_cons]; omega
theorem num_pos (n : Int) : 1 ≤ (num n).length := enc_pos _
theorem cmp_list {α : Type} {p : Par α} {f : α → List Int} {P : α → Prop} (hp : ∀ z x R, P x → p z (f x ++ R) = some (x, z, R)) (hf : ∀ x, 1 ≤ (f x).length) {most : Nat} (hmost : most ≤ maxLen) (l : List α) (z : Nat) (R : List Int) (hl : l.length ≤ most) (h : ∀ x ∈ l, P x) : pList most p z (many f l ++ R) = some (l, z, R) := by
  unfold pList many
  rw [List.append_assoc, cmp_len hl (by omega) z (by have := flat_long hf l; simp only [List.length_append]; omega)]
  simp only
  exact cmp_rep hp l z R h
theorem cmp_nums {l : List Int} {most : Nat} (hmost : most ≤ maxLen) (hl : l.length ≤ most) (h : ∀ x ∈ l, In64 x) (z : Nat) (R : List Int) : pList most pNum z (nums l ++ R) = some (l, z, R) :=
  cmp_list (fun z x R h => cmp_num h z R) num_pos hmost l z R hl h
theorem str_chars (s : ByteArray) : strOfNums (chars s) = s := chars_inj (chars_of (fun c hc => by
  unfold chars at hc
  obtain ⟨b, _, rfl⟩ := List.mem_map.1 hc
  have := b.toNat_lt
  omega))
theorem cmp_text {s : ByteArray} (hs : s.size ≤ 16384) (z : Nat) (R : List Int) : pText z (text s ++ R) = some (s, z, R) := by
  unfold pText text
  rw [List.append_assoc, cmp_len hs (by unfold maxLen; omega) z (by rw [List.length_append, chars_len]; omega)]
  simp only
  rw [List.take_append_of_le_length (by rw [chars_len]; exact Nat.le_refl _), List.take_of_length_le (by rw [chars_len]; exact Nat.le_refl _), str_chars, List.drop_append_of_le_length (by rw [chars_len]; exact Nat.le_refl _), List.drop_of_length_le (by rw [chars_len]; exact Nat.le_refl _)]
  rfl
theorem cmp_yes (b : Bool) (z : Nat) (R : List Int) : pYes z (num (if b then 1 else 0) ++ R) = some (b, z, R) := by
  unfold pYes
  rw [cmp_num (bit_in b)]
  cases b <;> simp
/-- An instruction that may be: its lists are short enough. -/
def limI (x : Ins) : Prop := okIns x ∧ bigIns x = false
theorem limI.lens {x : Ins} (h : limI x) : x.l.length ≤ 1024 ∧ x.m.length ≤ 1024 ∧ x.v.length ≤ 200 := by
  have := h.2
  unfold bigIns at this
  simp only [Bool.or_eq_false_iff, decide_eq_false_iff_not] at this
  omega
/-- y's field of the letter c, in x. -/
def putF (x y : Ins) (c : UInt8) : Ins :=
  if c = 68 then { x with d := y.d } else if c = 65 then { x with a := y.a } else if c = 66 then { x with b := y.b } else if c = 67 then { x with c := y.c } else if c = 78 then { x with n := y.n }
  else if c = 76 then { x with l := y.l } else if c = 77 then { x with m := y.m } else { x with v := y.v }
theorem cmp_field {x y : Ins} (hy : limI y) (c : UInt8) (z : Nat) (R : List Int) : pField x c z (field y c ++ R) = some (putF x y c, z, R) := by
  obtain ⟨l1, l2, l3⟩ := hy.lens
  obtain ⟨⟨⟨b0, b1, b2, b3, b4, b5⟩, ⟨b6, b7, b8⟩, _⟩, _⟩ := hy
  have M1 : 1024 ≤ maxLen := by unfold maxLen; omega
  have M2 : 200 ≤ maxLen := by unfold maxLen; omega
  unfold pField field putF andThen
  by_cases k1 : c = 68
  · simp only [if_pos k1]; rw [cmp_num b1]
  simp only [if_neg k1]
  by_cases k2 : c = 65
  · simp only [if_pos k2]; rw [cmp_num b2]
  simp only [if_neg k2]
  by_cases k3 : c = 66
  · simp only [if_pos k3]; rw [cmp_num b3]
  simp only [if_neg k3]
  by_cases k4 : c = 67
  · simp only [if_pos k4]; rw [cmp_num b4]
  simp only [if_neg k4]
  by_cases k5 : c = 78
  · simp only [if_pos k5]; rw [cmp_num b5]
  simp only [if_neg k5]
  by_cases k6 : c = 76
  · simp only [if_pos k6]; rw [cmp_nums M1 l1 b6.2]
  simp only [if_neg k6]
  by_cases k7 : c = 77
  · simp only [if_pos k7]; rw [cmp_nums M1 l2 b7.2]
  simp only [if_neg k7]
  rw [cmp_nums M2 l3 b8.2]
theorem cmp_fields {y : Ins} (hy : limI y) : ∀ (u : List UInt8) (x : Ins) (z : Nat) (R : List Int), pFields u x z (u.flatMap (field y) ++ R) = some (u.foldl (fun x c => putF x y c) x, z, R)
  | [], x, z, R => by simp [pFields]
  | c :: u, x, z, R => by
    simp only [pFields, List.flatMap_cons, List.append_assoc, List.foldl_cons]
    rw [cmp_field hy c z]
    simp only
    exact cmp_fields hy u _ z R
/-- All that u's letters name is y's, all else stays. -/
theorem fold_put {y : Ins} : ∀ (u : List UInt8) (x : Ins), let r := u.foldl (fun x c => putF x y c) x
    (∀ c ∈ u, c = 68 ∨ c = 65 ∨ c = 66 ∨ c = 67 ∨ c = 78 ∨ c = 76 ∨ c = 77 ∨ c = 108) →
    r.op = x.op ∧ r.d = (if (68 : UInt8) ∈ u then y.d else x.d) ∧ r.a = (if (65 : UInt8) ∈ u then y.a else x.a) ∧ r.b = (if (66 : UInt8) ∈ u then y.b else x.b) ∧ r.c = (if (67 : UInt8) ∈ u then y.c else x.c) ∧ r.n = (if (78 : UInt8) ∈ u then y.n else x.n) ∧ r.l = (if (76 : UInt8) ∈ u then y.l else x.l) ∧ r.m = (if (77 : UInt8) ∈ u then y.m else x.m) ∧ r.v = (if (108 : UInt8) ∈ u then y.v else x.v)
  | [], x => by simp
  | c :: u, x => by
    intro r hu
    have ih := fold_put (y := y) u (putF x y c) (fun d hd => hu d (by simp [hd]))
    have hr : r = u.foldl (fun x c => putF x y c) (putF x y c) := rfl
    rw [hr]
    obtain ⟨h0, h1, h2, h3, h4, h5, h6, h7, h8⟩ := ih
    rw [h0, h1, h2, h3, h4, h5, h6, h7, h8]
    rcases hu c (by simp) with rfl | rfl | rfl | rfl | rfl | rfl | rfl | rfl <;> simp [putF]
    all_goals (try (split <;> simp_all))
theorem cmp_Ins {y : Ins} (hy : limI y) (z : Nat) (R : List Int) : pIns z (bIns y ++ R) = some (y, z, R) := by
  unfold pIns bIns
  rw [List.append_assoc, cmp_num hy.1.1.1]
  simp only
  rw [cmp_fields hy]
  obtain ⟨h0, h1, h2, h3, h4, h5, h6, h7, h8⟩ := fold_put (y := y) (uses y.op).data.toList ⟨y.op, 0, 0, 0, 0, 0, [], [], []⟩ (uses_letters y.op)
  obtain ⟨p1, p2, p3, p4, p5, p6, p7, p8⟩ := plain_zero hy.1.2.2
  congr 2
  generalize (uses y.op).data.toList.foldl (fun x c => putF x y c) ⟨y.op, 0, 0, 0, 0, 0, [], [], []⟩ = r at *
  obtain ⟨r0, r1, r2, r3, r4, r5, r6, r7, r8⟩ := r
  obtain ⟨y0, y1, y2, y3, y4, y5, y6, y7, y8⟩ := y
  simp only at h0 h1 h2 h3 h4 h5 h6 h7 h8 p1 p2 p3 p4 p5 p6 p7 p8
  rw [h0, h1, h2, h3, h4, h5, h6, h7, h8]
  congr 1 <;> (split <;> simp_all)
end M
end Go.Proofs.YthlifflapgccbaaGreat
/- An image that may be is read from its bytes. No program in sight. -/
namespace Go.Proofs.YthlifflapgccbaaGreat
set_option linter.unusedVariables false
set_option linter.unusedSimpArgs false
open Go.ChangeShapes Go.WideShapes Go.ChangeAt Go.RowKit
namespace M
theorem bIns_pos (x : Ins) : 1 ≤ (bIns x).length := by unfold bIns; have := num_pos x.op; rw [List.length_append]; omega
theorem many_pos {α : Type} (f : α → List Int) (l : List α) : 1 ≤ (many f l).length := by unfold many; have := num_pos (l.length : Int); rw [List.length_append]; omega
theorem bBk_pos (b : Bk) : 1 ≤ (bBk b).length := by unfold bBk; have := many_pos num b.inn; unfold nums; rw [List.length_append]; omega
theorem bFn_pos (f : Fn) : 1 ≤ (bFn f).length := by unfold bFn; have := many_pos num f.params; unfold nums; simp only [List.length_append]; omega
theorem bTy_pos (t : Ty) : 1 ≤ (bTy t).length := by unfold bTy; have := num_pos (if t.imm then 1 else 0); rw [List.length_append]; omega
theorem bSh_pos (s : Sh) : 1 ≤ (bSh s).length := by unfold bSh; have := num_pos s.kind; simp only [List.length_append]; omega
theorem text_pos (s : ByteArray) : 1 ≤ (text s).length := by unfold text; have := num_pos (s.size : Int); rw [List.length_append]; omega
theorem cmp_then {α β γ : Type} {p : Par α} {q : α → Par β} {F : α → β → γ} {z z1 z2 : Nat} {R R1 R2 : List Int} {a : α} {b : β} (h1 : p z R = some (a, z1, R1)) (h2 : q a z1 R1 = some (b, z2, R2)) : andThen p q F z R = some (F a b, z2, R2) := by
  unfold andThen
  rw [h1]
  simp only
  rw [h2]
theorem cmp_Ty {t : Ty} (h : okTy t) (hb : bigTy t = false) (z : Nat) (R : List Int) : pTy z (bTy t ++ R) = some (t, z, R) := by
  have hl : t.shapes.length ≤ 512 := by unfold bigTy at hb; simpa using hb
  unfold pTy bTy
  rw [List.append_assoc]
  exact cmp_then (cmp_yes t.imm z _) (cmp_nums (by unfold maxLen; omega) hl h.2 z R)
theorem cmp_Sh {s : Sh} (h : okSh s) (hb : bigSh s = false) (z : Nat) (R : List Int) : pSh z (bSh s ++ R) = some (s, z, R) := by
  have hl : s.fields.length ≤ 200 ∧ s.name.size ≤ 16384 := by
    unfold bigSh at hb
    simp only [Bool.or_eq_false_iff, decide_eq_false_iff_not] at hb
    omega
  unfold pSh bSh
  simp only [List.append_assoc]
  have e1 := cmp_num h.1 z (nums s.fields ++ (text s.name ++ R))
  have e2 := cmp_nums (most := 200) (by unfold maxLen; omega) hl.1 h.2.1.2 z (text s.name ++ R)
  have e3 := cmp_text hl.2 z R
  simp only [andThen, e1, e2, e3]
def limB (b : Bk) : Prop := okNums b.inn ∧ b.inn.length ≤ 200 ∧ ∀ x ∈ b.code, limI x
theorem cmp_Code {l : List Ins} {z : Nat} (hz : z + l.length ≤ 20000) (h : ∀ x ∈ l, limI x) (R : List Int) : pCode z (many bIns l ++ R) = some (l, z + l.length, R) := by
  unfold pCode
  rw [cmp_list (fun z x R h => cmp_Ins h z R) bIns_pos (by unfold maxLen; omega) l z R (by omega) h]
theorem cmp_Bk {b : Bk} {z : Nat} (h : limB b) (hz : z + b.code.length ≤ 20000) (R : List Int) : pBk z (bBk b ++ R) = some (b, z + b.code.length, R) := by
  unfold pBk bBk
  rw [List.append_assoc]
  exact cmp_then (cmp_nums (by unfold maxLen; omega) h.2.1 h.1.2 z _) (cmp_Code hz h.2.2 R)
theorem cmp_repz {α : Type} {p : Par α} {f : α → List Int} {P : α → Prop} {s : α → Nat} {N : Nat} (hp : ∀ z x R, P x → z + s x ≤ N → p z (f x ++ R) = some (x, z + s x, R)) : ∀ (l : List α) (z : Nat) (R : List Int), (∀ x ∈ l, P x) → z + (l.map s).sum ≤ N → pRep p l.length z (l.flatMap f ++ R) = some (l, z + (l.map s).sum, R)
  | [], z, R, _, _ => by simp [pRep]
  | x :: l, z, R, h, hz => by
    simp only [List.map_cons, List.sum_cons] at hz
    simp only [List.length_cons, pRep, List.flatMap_cons, List.append_assoc, List.map_cons, List.sum_cons]
    rw [hp z x _ (h x (by simp)) (by omega)]
    simp only
    rw [cmp_repz hp l _ R (fun y hy => h y (by simp [hy])) (by omega)]
    simp [Nat.add_assoc]
theorem cmp_listz {α : Type} {p : Par α} {f : α → List Int} {P : α → Prop} {s : α → Nat} {N : Nat} (hp : ∀ z x R, P x → z + s x ≤ N → p z (f x ++ R) = some (x, z + s x, R)) (hf : ∀ x, 1 ≤ (f x).length) {most : Nat} (hmost : most ≤ maxLen) (l : List α) (z : Nat) (R : List Int) (hl : l.length ≤ most) (h : ∀ x ∈ l, P x) (hz : z + (l.map s).sum ≤ N) : pList most p z (many f l ++ R) = some (l, z + (l.map s).sum, R) := by
  unfold pList many
  rw [List.append_assoc, cmp_len hl (by omega) z (by have := flat_long hf l; simp only [List.length_append]; omega)]
  simp only
  exact cmp_repz hp l z R h hz
def limF (f : Fn) : Prop := okNums f.params ∧ f.params.length ≤ 200 ∧ In64 f.result ∧ In64 f.slots ∧ f.blocks.length ≤ 2000 ∧ ∀ b ∈ f.blocks, limB b
theorem cmp_Fn {f : Fn} {z : Nat} (h : limF f) (hz : z + sizeFn f ≤ 20000) (R : List Int) : pFn z (bFn f ++ R) = some (f, z + sizeFn f, R) := by
  obtain ⟨h1, h2, h3, h4, h5, h6⟩ := h
  unfold pFn bFn
  simp only [List.append_assoc]
  have e1 := cmp_nums (most := 200) (by unfold maxLen; omega) h2 h1.2 z (num f.result ++ (num f.slots ++ (many bBk f.blocks ++ R)))
  have e2 := cmp_num h3 z (num f.slots ++ (many bBk f.blocks ++ R))
  have e3 := cmp_num h4 z (many bBk f.blocks ++ R)
  have e4 := cmp_listz (p := pBk) (most := 2000) (N := 20000) (fun z x R h hz => cmp_Bk h hz R) bBk_pos (by unfold maxLen; omega) f.blocks z R h5 h6 hz
  simp only [andThen, e1, e2, e3, e4]
  rfl
theorem check_zero {m : Img} (h : M.check m = 0) : big m = false ∧ anyIns (fun x => !(plainIns x)) m = false := by
  unfold check at h
  cases hq : big m <;> cases hk : anyIns (fun x => !(plainIns x)) m <;> simp_all
theorem all_false {α : Type} {p : α → Bool} {l : List α} (h : l.any p = false) : ∀ x ∈ l, p x = false := fun x hx => by
  cases hq : p x with
  | false => rfl
  | true => rw [List.any_eq_true.2 ⟨x, hx, hq⟩] at h; cases h
theorem cmp_Img {m : Img} (ho : okImg m) (hc : M.check m = 0) : pImg 0 (bImg m) = some (m, size m, []) := by
  obtain ⟨hb, _⟩ := check_zero hc
  obtain ⟨o1, o2, o3, o4, o5, o6, o7⟩ := ho
  unfold big at hb
  simp only [Bool.or_eq_false_iff, decide_eq_false_iff_not] at hb
  obtain ⟨⟨⟨⟨⟨⟨⟨⟨⟨⟨⟨b1, b2⟩, b3⟩, b4⟩, b5⟩, b6⟩, b7⟩, b8⟩, b9⟩, b10⟩, b11⟩, b12⟩ := hb
  have f6 := all_false b6
  have f7 := all_false b7
  have f8 := all_false b8
  have f9 := all_false b9
  have f10 := all_false b10
  have f12 := all_false (show (m.funcs.any fun f => f.blocks.any fun b => b.code.any bigIns) = false from b12)
  have hF : ∀ f ∈ m.funcs, limF f := fun f hf => by
    obtain ⟨k1, k2, k3, k4, k5⟩ := o5.2 f hf
    have hbf := f10 f hf
    unfold bigFn at hbf
    simp only [Bool.or_eq_false_iff, decide_eq_false_iff_not] at hbf
    obtain ⟨⟨⟨c1, c2⟩, c3⟩, c4⟩ := hbf
    refine ⟨k1, by omega, k2, k3, by omega, fun b hb => ?_⟩
    obtain ⟨j1, j2, j3⟩ := k5 b hb
    have hbb := all_false c4 b hb
    unfold bigBk at hbb
    simp only [decide_eq_false_iff_not] at hbb
    exact ⟨j1, by omega, fun x hx => ⟨j3 x hx, all_false (all_false (f12 f hf) b hb) x hx⟩⟩
  have M1 : 1024 ≤ maxLen := by unfold maxLen; omega
  have M2 : 512 ≤ maxLen := by unfold maxLen; omega
  have M3 : 256 ≤ maxLen := by unfold maxLen; omega
  have hsz : size m = (m.funcs.map sizeFn).sum := rfl
  unfold pImg bImg
  simp only [List.append_assoc]
  have hlast : pNum (size m) (num m.exn) = some (m.exn, size m, []) := by
    have := cmp_num o7 (size m) []
    rwa [List.append_nil] at this
  have r5 : (many bFn m.funcs ++ (num m.main ++ num m.exn)) = (many bFn m.funcs ++ (num m.main ++ num m.exn)) := rfl
  have e1 := cmp_list (p := pTy) (most := 1024) (P := fun t => okTy t ∧ bigTy t = false) (fun z x R h => cmp_Ty h.1 h.2 z R) bTy_pos M1 m.types 0 (many bSh m.shapes ++ (many text m.strings ++ (many text m.names ++ (many bFn m.funcs ++ (num m.main ++ num m.exn))))) (by omega) (fun t ht => ⟨o1.2 t ht, f6 t ht⟩)
  have e2 := cmp_list (p := pSh) (most := 512) (P := fun t => okSh t ∧ bigSh t = false) (fun z x R h => cmp_Sh h.1 h.2 z R) bSh_pos M2 m.shapes 0 (many text m.strings ++ (many text m.names ++ (many bFn m.funcs ++ (num m.main ++ num m.exn)))) (by omega) (fun t ht => ⟨o2.2 t ht, f7 t ht⟩)
  have tx : ∀ s : ByteArray, bigTx s = false → s.size ≤ 16384 := fun s hs => by unfold bigTx at hs; simpa using hs
  have e3 := cmp_list (p := pText) (most := 256) (P := fun t : ByteArray => t.size ≤ 16384) (fun z x R h => cmp_text h z R) text_pos M3 m.strings 0 (many text m.names ++ (many bFn m.funcs ++ (num m.main ++ num m.exn))) (by omega) (fun t ht => tx t (f8 t ht))
  have e4 := cmp_list (p := pText) (most := 256) (P := fun t : ByteArray => t.size ≤ 16384) (fun z x R h => cmp_text h z R) text_pos M3 m.names 0 (many bFn m.funcs ++ (num m.main ++ num m.exn)) (by omega) (fun t ht => tx t (f9 t ht))
  have e5 := cmp_listz (p := pFn) (most := 1024) (N := 20000) (fun z x R h hz => cmp_Fn h hz R) bFn_pos M1 m.funcs 0 (num m.main ++ num m.exn) (by omega) hF (by rw [Nat.zero_add, ← hsz]; omega)
  rw [Nat.zero_add, ← hsz] at e5
  have e6 := cmp_num o6 (size m) (num m.exn)
  simp only [andThen, e1, e2, e3, e4, e5, e6, hlast]
end M
end Go.Proofs.YthlifflapgccbaaGreat
