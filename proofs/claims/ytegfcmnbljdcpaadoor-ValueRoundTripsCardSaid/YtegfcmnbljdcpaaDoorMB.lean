/-
  Layer 6, texts merged: the reference's Next and what it leans on. For every argument within the bounds that each theorem names.
-/
import Derived.Test.YtegfcmnbljdcpaaDoorMA
import Derived.Deep.DeepCutAuto
import Derived.Deep.QuietTactic
import Derived.BigQuiet
import Derived.Sort.Walk0
import Derived.Laws.Cover1
import Derived.Lib.Strings

/-
  Layer 6, the reference: Next, elements, pairs.
-/
namespace Go.Proofs.YtegfcmnbljdcpaaDoor
open Go.RowKit
namespace Val

/-- Where what is left begins. -/
def ix (l r : List Cel) : Int := ((l.length - r.length : Nat) : Int)
/-- The index behind the value that begins at an index, or -1; behind several; behind several pairs. -/
def nx (l : List Cel) (f i : Nat) : Int := match rd f (l.drop i) with
  | some (_, r) => ix l r
  | none => -1
def el (l : List Cel) (f i m : Nat) : Int := match rdL (rd f) m (l.drop i) with
  | some (_, r) => ix l r
  | none => -1
def pr (l : List Cel) (f i m : Nat) (q : Option Txt) : Int := match rdM (rd f) m q (l.drop i) with
  | some (_, r) => ix l r
  | none => -1
theorem rest_of {l x r : List Cel} {i : Nat} (h : l.drop i = x ++ r) (hx : 1 ≤ x.length) : ∃ j : Nat, ix l r = (j : Int) ∧ i < j ∧ j ≤ l.length ∧ r = l.drop j ∧ j = i + x.length := by
  have hl := congrArg List.length h
  rw [List.length_drop, List.length_append] at hl
  have hi : i ≤ l.length := by omega
  refine ⟨l.length - r.length, rfl, by omega, by omega, ?_, by omega⟩
  have e : l.length - r.length = i + x.length := by omega
  rw [e, ← List.drop_drop, h, List.drop_left]
theorem nx_cases (l : List Cel) (f i : Nat) : (rd f (l.drop i) = none ∧ nx l f i = -1) ∨ ∃ (v : V) (j : Nat), rd f (l.drop i) = some (v, l.drop j) ∧ nx l f i = (j : Int) ∧ i < j ∧ j ≤ l.length := by
  unfold nx
  cases h : rd f (l.drop i) with
  | none => exact Or.inl ⟨rfl, rfl⟩
  | some x =>
    obtain ⟨v, r⟩ := x
    obtain ⟨_, h2⟩ := rd_sound h
    obtain ⟨j, e1, e2, e3, e4, _⟩ := rest_of h2 (flat_pos v)
    exact Or.inr ⟨v, j, by rw [← e4], e1, e2, e3⟩
theorem el_zero (l : List Cel) (f i : Nat) (hi : i ≤ l.length) : el l f i 0 = (i : Int) := by
  unfold el rdL ix
  simp only
  rw [List.length_drop]
  omega
theorem el_step (l : List Cel) (f i m : Nat) : el l f i (m + 1) = if nx l f i = -1 then -1 else el l f (nx l f i).toNat m := by
  rcases nx_cases l f i with ⟨h1, h2⟩ | ⟨v, j, h1, h2, _, _⟩
  · rw [if_pos h2]
    unfold el
    rw [rdL, h1]
  · rw [if_neg (by omega), h2]
    unfold el
    rw [rdL, h1]
    simp only [Int.toNat_natCast]
    cases rdL (rd f) m (l.drop j) with
    | none => rfl
    | some x => rfl
theorem pr_zero (l : List Cel) (f i : Nat) (q : Option Txt) (hi : i ≤ l.length) : pr l f i 0 q = (i : Int) := by
  unfold pr rdM ix
  simp only
  rw [List.length_drop]
  omega
theorem pr_end (l : List Cel) (f i m : Nat) (q : Option Txt) (hi : l.length ≤ i) : pr l f i (m + 1) q = -1 := by
  unfold pr
  rw [List.drop_of_length_le hi]
  rfl
theorem pr_step (l : List Cel) (f i m : Nat) (q : Option Txt) (h : i < l.length) : pr l f i (m + 1) q = if (keyC l[i] && above q l[i].s) = false then -1 else if nx l f (i + 1) = -1 then -1 else pr l f (nx l f (i + 1)).toNat m (some l[i].s) := by
  have e := List.drop_eq_getElem_cons h
  conv => lhs; unfold pr
  rw [e]
  conv => lhs; unfold rdM
  simp only
  cases hk : (keyC l[i] && above q l[i].s) with
  | false => rw [if_neg (by decide), if_pos rfl]
  | true =>
    rw [if_pos rfl, if_neg (by decide)]
    rcases nx_cases l f (i + 1) with ⟨h1, h2⟩ | ⟨v, j, h1, h2, _, _⟩
    · rw [if_pos h2, h1]
    · rw [if_neg (by omega), h2, h1]
      simp only [Int.toNat_natCast]
      unfold pr
      cases rdM (rd f) m (some l[i].s) (l.drop j) with
      | none => rfl
      | some x => rfl
theorem leq_no {x y : Txt} (h : y < x) : Op.bytesLess x y = false ∧ (x == y) = false := by
  rw [bytesLess_eq]
  have h1 : ¬ x < y := fun k => List.lt_irrefl _ (List.lt_trans h k)
  have h2 : ¬ x = y := fun e => by subst e; exact List.lt_irrefl _ h
  exact ⟨decide_eq_false h1, by simpa using h2⟩
theorem leq_yes {x y : Txt} (h : ¬ y < x) : Op.bytesLess x y = true ∨ (Op.bytesLess x y = false ∧ (x == y) = true) := by
  rw [bytesLess_eq]
  by_cases h1 : x < y
  · exact Or.inl (decide_eq_true h1)
  · have e : x = y := List.le_antisymm (List.not_lt.1 h) (List.not_lt.1 h1)
    exact Or.inr ⟨decide_eq_false h1, by simpa using e⟩
end Val
end Go.Proofs.YtegfcmnbljdcpaaDoor

/-
  Layer 6, the reference: Next, a cell of each kind.
-/
namespace Go.Proofs.YtegfcmnbljdcpaaDoor
open Go.RowKit
namespace Val

theorem str_no {X : ByteArray} (h : X.toList ≠ []) : X.toList.isEmpty = false ∧ (X.toList = []) = False := ⟨by simpa using h, eq_false h⟩
theorem str_empty {X : ByteArray} (h : X.toList = []) : X = ⟨#[]⟩ := by
  rw [← str_back X, h]
theorem nx_head {l : List Cel} {f i : Nat} (h : i < l.length) : nx l (f + 1) i = (if headC 5 l[i] then el l f (i + 1) l[i].n.toNat else if headC 6 l[i] then pr l f (i + 1) l[i].n.toNat none else if (rd1 l[i]).isSome then ((i + 1 : Nat) : Int) else -1) := by
  have e := List.drop_eq_getElem_cons h
  have key : rd (f + 1) (l.drop i) = if headC 5 l[i] then (match rdL (rd f) l[i].n.toNat (l.drop (i + 1)) with
      | none => none
      | some (t, r') => some (.list t, r')) else if headC 6 l[i] then (match rdM (rd f) l[i].n.toNat none (l.drop (i + 1)) with
      | none => none
      | some (t, r') => some (.map t, r')) else match rd1 l[i] with
      | none => none
      | some v => some (v, l.drop (i + 1)) := by
    rw [e, rd]
    rfl
  unfold nx el pr
  rw [key]
  cases h5 : headC 5 l[i] with
  | true =>
    simp only [if_true]
    cases rdL (rd f) l[i].n.toNat (l.drop (i + 1)) with
    | none => rfl
    | some x => rfl
  | false =>
    simp only [Bool.false_eq_true, if_false]
    cases h6 : headC 6 l[i] with
    | true =>
      simp only [if_true]
      cases rdM (rd f) l[i].n.toNat none (l.drop (i + 1)) with
      | none => rfl
      | some x => rfl
    | false =>
      simp only [Bool.false_eq_true, if_false]
      cases rd1 l[i] with
      | none => rfl
      | some v =>
        show ix l (l.drop (i + 1)) = _
        unfold ix
        rw [List.length_drop]
        simp
        omega
theorem nx_end {l : List Cel} {f i : Nat} (h : l.length ≤ i) : nx l f i = -1 := by
  unfold nx
  rw [List.drop_of_length_le h]
  cases f <;> rfl
/-- The tests on one cell, each as the program makes it. -/
theorem one_null (z n : Int) (s : Txt) : (rd1 ⟨1, z, s, n⟩).isSome = (z == 0 && (s == [] && n == 0)) := by
  unfold rd1
  simp only
  rw [if_pos trivial]
  split
  · rename_i h; obtain ⟨rfl, rfl, rfl⟩ := h; rfl
  · rename_i h
    symm
    show _ = false
    rw [Bool.eq_false_iff]
    intro k
    simp only [Bool.and_eq_true, beq_iff_eq] at k
    exact h ⟨k.1, k.2.1, k.2.2⟩
theorem one_bool (z n : Int) (s : Txt) : (rd1 ⟨2, z, s, n⟩).isSome = ((z == 0 || z == 1) && (s == [] && n == 0)) := by
  unfold rd1
  simp only
  rw [if_neg (by decide), if_pos trivial]
  split
  · rename_i h; obtain ⟨rfl | rfl, rfl, rfl⟩ := h <;> rfl
  · rename_i h
    symm
    show _ = false
    rw [Bool.eq_false_iff]
    intro k
    simp only [Bool.and_eq_true, Bool.or_eq_true, beq_iff_eq] at k
    exact h ⟨k.1, k.2.1, k.2.2⟩
theorem one_int (z n : Int) (s : Txt) : (rd1 ⟨3, z, s, n⟩).isSome = (s == [] && n == 0) := by
  unfold rd1
  simp only
  rw [if_neg (by decide), if_neg (by decide), if_pos trivial]
  split
  · rename_i h; obtain ⟨rfl, rfl⟩ := h; rfl
  · rename_i h
    symm
    show _ = false
    rw [Bool.eq_false_iff]
    intro k
    simp only [Bool.and_eq_true, beq_iff_eq] at k
    exact h k
theorem one_str (z n : Int) (s : Txt) : (rd1 ⟨4, z, s, n⟩).isSome = keyC ⟨4, z, s, n⟩ := by
  unfold rd1
  simp only
  rw [if_neg (by decide), if_neg (by decide), if_neg (by decide), if_pos trivial]
  cases h : keyC ⟨4, z, s, n⟩ with
  | true => rfl
  | false => rfl
theorem one_else {k z n : Int} {s : Txt} (h1 : k ≠ 1) (h2 : k ≠ 2) (h3 : k ≠ 3) (h4 : k ≠ 4) : rd1 ⟨k, z, s, n⟩ = none := by
  unfold rd1
  simp only
  rw [if_neg h1, if_neg h2, if_neg h3, if_neg h4]
theorem no_head {k k' z n : Int} {s : Txt} (h : k ≠ k') : headC k' ⟨k, z, s, n⟩ = false := by
  unfold headC
  have : (k == k') = false := by simpa using h
  simp [this]
theorem head_yes {k z n : Int} {s : Txt} : headC k ⟨k, z, s, n⟩ = true ↔ z = 0 ∧ s = [] ∧ 0 ≤ n := by
  unfold headC
  simp [and_assoc]
end Val
end Go.Proofs.YtegfcmnbljdcpaaDoor

/-
  Layer 6, the reference: Next, for all cells.
-/
namespace Go.Proofs.YtegfcmnbljdcpaaDoor
open Go.RowKit
namespace Val

end Val
end Go.Proofs.YtegfcmnbljdcpaaDoor

/-
  Layer 6, the reference: formed, levels.
-/
namespace Go.Proofs.YtegfcmnbljdcpaaDoor
open Go.RowKit
namespace Val

def allL (P : V → Prop) : L → Prop
  | .nil => True
  | .cons v r => P v ∧ allL P r
def allM (P : V → Prop) : M → Prop
  | .nil => True
  | .cons _ v r => P v ∧ allM P r
mutual
theorem V_ind {P : V → Prop} (h0 : P .null) (h1 : ∀ b, P (.bool b)) (h2 : ∀ n, P (.int n)) (h3 : ∀ s, P (.str s)) (hl : ∀ x, allL P x → P (.list x)) (hm : ∀ x, allM P x → P (.map x)) : ∀ t, P t
  | .null => h0
  | .bool b => h1 b
  | .int n => h2 n
  | .str s => h3 s
  | .list x => hl x (L_ind h0 h1 h2 h3 hl hm x)
  | .map x => hm x (M_ind h0 h1 h2 h3 hl hm x)
theorem L_ind {P : V → Prop} (h0 : P .null) (h1 : ∀ b, P (.bool b)) (h2 : ∀ n, P (.int n)) (h3 : ∀ s, P (.str s)) (hl : ∀ x, allL P x → P (.list x)) (hm : ∀ x, allM P x → P (.map x)) : ∀ x, allL P x
  | .nil => trivial
  | .cons v r => ⟨V_ind h0 h1 h2 h3 hl hm v, L_ind h0 h1 h2 h3 hl hm r⟩
theorem M_ind {P : V → Prop} (h0 : P .null) (h1 : ∀ b, P (.bool b)) (h2 : ∀ n, P (.int n)) (h3 : ∀ s, P (.str s)) (hl : ∀ x, allL P x → P (.list x)) (hm : ∀ x, allM P x → P (.map x)) : ∀ x, allM P x
  | .nil => trivial
  | .cons _ v r => ⟨V_ind h0 h1 h2 h3 hl hm v, M_ind h0 h1 h2 h3 hl hm r⟩
end
/-- Next, where a value stands. -/
theorem nx_flat {l r : List Cel} {i : Nat} {t : V} (h : l.drop i = flat t ++ r) (hw : wf t = true) : nx l l.length i = ((i + (flat t).length : Nat) : Int) ∧ l.drop (i + (flat t).length) = r ∧ i + (flat t).length ≤ l.length := by
  have hl := congrArg List.length h
  rw [List.length_drop, List.length_append] at hl
  have hp := flat_pos t
  refine ⟨?_, by rw [← List.drop_drop, h, List.drop_left], by omega⟩
  unfold nx
  rw [h, rd_full t l.length r hw (by omega)]
  show ix l r = _
  unfold ix
  congr 1
  omega
/-- The cell at a place. -/
theorem cell_of {l r : List Cel} {i : Nat} {c : Cel} (h : l.drop i = c :: r) : ∃ hi : i < l.length, l[i] = c ∧ l.drop (i + 1) = r := by
  have hl := congrArg List.length h
  rw [List.length_drop, List.length_cons] at hl
  have hi : i < l.length := by omega
  have e := List.drop_eq_getElem_cons hi
  rw [h] at e
  injection e with e1 e2
  exact ⟨hi, e1.symm, e2.symm⟩
theorem lvlL_le : ∀ x, allL (fun t => lvl t ≤ (flat t).length) x → lvlL x ≤ (flatL x).length
  | .nil, _ => Nat.zero_le _
  | .cons v r, h => by
    have := lvlL_le r h.2
    have := h.1
    simp only [lvlL, flatL, List.length_append]
    omega
theorem lvlM_le : ∀ x, allM (fun t => lvl t ≤ (flat t).length) x → lvlM x ≤ (flatM x).length
  | .nil, _ => Nat.zero_le _
  | .cons k v r, h => by
    have := lvlM_le r h.2
    have := h.1
    simp only [lvlM, flatM, List.length_append, List.length_cons]
    omega
theorem lvl_le : ∀ t, lvl t ≤ (flat t).length := by
  refine V_ind (by simp [lvl, flat]) (fun b => by simp [lvl, flat]) (fun b => by simp [lvl, flat]) (fun b => by simp [lvl, flat]) (fun x hx => ?_) (fun x hx => ?_)
  · have := lvlL_le x hx
    simp only [lvl, flat, List.length_cons]
    omega
  · have := lvlM_le x hx
    simp only [lvl, flat, List.length_cons]
    omega
/-- What formed says. -/
def formB (l : List Cel) : Bool := (par l).isSome
theorem form_nx (l : List Cel) : formB l = (decide (0 < l.length) && nx l l.length 0 == (l.length : Int)) := by
  unfold formB par
  cases l with
  | nil => rfl
  | cons c r =>
    have e : nx (c :: r) (c :: r).length 0 = match rd (c :: r).length (c :: r) with
      | some (_, q) => ix (c :: r) q
      | none => -1 := rfl
    rw [e]
    cases h : rd (c :: r).length (c :: r) with
    | none =>
      simp
      omega
    | some x =>
      obtain ⟨v, q⟩ := x
      obtain ⟨h1, h2⟩ := rd_sound h
      have hp := flat_pos v
      have hl := congrArg List.length h2
      rw [List.length_append] at hl
      cases q with
      | nil => simp [ix]
      | cons d q =>
        simp only [List.length_cons] at hl
        have : (ix (c :: r) (d :: q) == ((c :: r).length : Int)) = false := by
          rw [beq_eq_false_iff_ne]
          unfold ix
          simp only [List.length_cons]
          omega
        rw [this, Bool.and_false]
        rfl
end Val
end Go.Proofs.YtegfcmnbljdcpaaDoor

/-
  Layer 6, the reference: levels.
-/
namespace Go.Proofs.YtegfcmnbljdcpaaDoor
open Go.RowKit
namespace Val

theorem lenL_le : ∀ x, lenL x ≤ (flatL x).length
  | .nil => Nat.zero_le _
  | .cons v r => by
    have := lenL_le r
    have := flat_pos v
    simp only [lenL, flatL, List.length_append]
    omega
theorem lenM_le : ∀ x, lenM x ≤ (flatM x).length
  | .nil => Nat.zero_le _
  | .cons k v r => by
    have := lenM_le r
    have := flat_pos v
    simp only [lenM, flatM, List.length_append, List.length_cons]
    omega
/-- Well-formed pairs, whatever stood before. -/
def wfMX (m : M) : Prop := ∃ q, wfM q m = true
def wfLX (x : L) : Prop := wfL x = true
end Val
end Go.Proofs.YtegfcmnbljdcpaaDoor

/-
  Layer 6, the reference: quoted.
-/
namespace Go.Proofs.YtegfcmnbljdcpaaDoor
open Go.RowKit
namespace Val

theorem esc_snoc (l : Txt) (c : UInt8) : esc (l ++ [c]) = esc l ++ (if c = 34 ∨ c = 92 then [92, c] else [c]) := by
  induction l with
  | nil =>
    simp only [List.nil_append, esc]
  | cons x l ih =>
    rw [List.cons_append, esc, esc, ih]
    split <;> simp
theorem esc_len (l : Txt) : (esc l).length ≤ 2 * l.length := by
  induction l with
  | nil => exact Nat.le_refl _
  | cons x l ih =>
    rw [esc]
    split
    · simp only [List.length_cons]; omega
    · simp only [List.length_cons]; omega
/-- One byte of a string. -/
theorem cut1 (s : ByteArray) (i : Nat) (zi zj : Int) (hi : zi = (i : Int)) (hj : zj = (i : Int) + 1) (h : i < s.size) (w : World) :
    (Instr.slice 9 (.string s) (some (.int .i64 zi)) (some (.int .i64 zj)) none).run Tryd.prog w = .ok (.string ⟨#[s[i]]⟩) w := by
  subst hi hj
  rw [run_slice_string_if w 9 s .i64 .i64 (i : Int) ((i : Int) + 1) Tryd.underlying9, if_pos ⟨by omega, by omega⟩, if_pos ⟨by omega, by omega⟩, Lib.extract_eq]
  have e1 : ((i : Int) + 1).toNat = i + 1 := by omega
  have e2 : s.data.toList.drop i = s[i] :: s.data.toList.drop (i + 1) := by
    have hl : i < s.toList.length := by rw [toL_len]; exact h
    have := List.drop_eq_getElem_cons hl
    rw [toL_get s i h, toL] at this
    exact this
  rw [e1, Int.toNat_natCast, e2, show i + 1 - i = 1 by omega]
  rfl
theorem b34 (c : UInt8) : ((c.toNat : Int) == 34) = decide (c = 34) := by
  rw [Bool.eq_iff_iff, beq_iff_eq, decide_eq_true_eq]
  constructor
  · intro h; apply UInt8.toNat_inj.1; have : (34 : UInt8).toNat = 34 := rfl; omega
  · rintro rfl; rfl
theorem b92 (c : UInt8) : ((c.toNat : Int) == 92) = decide (c = 92) := by
  rw [Bool.eq_iff_iff, beq_iff_eq, decide_eq_true_eq]
  constructor
  · intro h; apply UInt8.toNat_inj.1; have : (92 : UInt8).toNat = 92 := rfl; omega
  · rintro rfl; rfl
theorem size_lit (c : UInt8) : (⟨#[c]⟩ : ByteArray).size = 1 := rfl
theorem app_list (X : ByteArray) (c : UInt8) : (X ++ (⟨#[c]⟩ : ByteArray)).toList = X.toList ++ [c] := by
  rw [toL, toL]
  simp [ByteArray.data_append]
end Val
end Go.Proofs.YtegfcmnbljdcpaaDoor
