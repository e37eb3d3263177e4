/-
  Layer 6, texts merged: the reference's order and small readers. For every argument within the bounds that each theorem names.
-/
import Derived.Test.YtegfcmnbljdcpaaGreatDoorME
import Derived.Test.YtegfcmnbljdcpaaGreatDoorMA
import Derived.Laws.Cover1

/-
  Layer 6, the reference: order, words; compare of values of different kinds and of scalars.
-/
namespace Go.Proofs.YtegfcmnbljdcpaaGreatDoor
open Go.RowKit Go.ChangeShapes Go.WideShapes
namespace Val

/-- The first cell of a value. -/
def hdC : V → Cel
  | .null => ⟨1, 0, [], 0⟩
  | .bool b => ⟨2, b2i b, [], 0⟩
  | .int n => ⟨3, n, [], 0⟩
  | .str s => ⟨4, 0, s, 0⟩
  | .list l => ⟨5, 0, [], (lenL l : Int)⟩
  | .map m => ⟨6, 0, [], (lenM m : Int)⟩
def tlC : V → List Cel
  | .list l => flatL l
  | .map m => flatM m
  | _ => []
theorem flat_hd (t : V) : flat t = hdC t :: tlC t := by cases t <;> rfl
theorem hd_kind (t : V) : (hdC t).k = kind t := by cases t <;> rfl
theorem cmp_kinds {s t : V} (h : kind s ≠ kind t) : cmp s t = ord (kind s) (kind t) := by
  cases s <;> cases t <;> first | rfl | exact absurd rfl h
/-- Where the first cells stand. -/
theorem cmp_heads {la lb r1 r2 : List Cel} {s t : V} {i k n1 n2 : Nat} {o1 o2 : Option Addr} {w : World} (h1 : la.drop i = flat s ++ r1) (h2 : lb.drop k = flat t ++ r2) (hA : CArg w o1 n1 la) (hB : CArg w o2 n2 lb) :
    i < n1 ∧ k < n2 ∧ ∃ b1 f1 b2 f2, o1 = some ⟨b1, f1, none⟩ ∧ o2 = some ⟨b2, f2, none⟩ ∧ CAt w b1 (f1 + i * 4) (hdC s) ∧ CAt w b2 (f2 + k * 4) (hdC t) ∧ la.drop (i + 1) = tlC s ++ r1 ∧ lb.drop (k + 1) = tlC t ++ r2 := by
  rw [flat_hd, List.cons_append] at h1 h2
  obtain ⟨hi, hc, hd⟩ := cell_of h1
  obtain ⟨hk, hc2, hd2⟩ := cell_of h2
  have e1 := hA.1
  have e2 := hB.1
  obtain ⟨b1, f1, rfl, g1⟩ := hA.2.2 (by omega)
  obtain ⟨b2, f2, rfl, g2⟩ := hB.2.2 (by omega)
  refine ⟨by omega, by omega, b1, f1, b2, f2, rfl, rfl, ?_, ?_, hd, hd2⟩
  · rw [← hc]; exact g1 i hi
  · rw [← hc2]; exact g2 k hk
end Val
end Go.Proofs.YtegfcmnbljdcpaaGreatDoor

/-
  Layer 6, the reference: compare of lists, maps and null; Cmp.
-/
namespace Go.Proofs.YtegfcmnbljdcpaaGreatDoor
open Go.RowKit Go.ChangeShapes Go.WideShapes
namespace Val

theorem ordn_lt {a b : Nat} (h : a < b) : ord (a : Int) (b : Int) = -1 := if_pos (by omega)
theorem ordn_gt {a b : Nat} (h : b < a) : ord (a : Int) (b : Int) = 1 := by unfold ord; rw [if_neg (by omega), if_pos (by omega)]
theorem ordn_eq (a : Int) : ord a a = 0 := by unfold ord; rw [if_neg (by omega), if_neg (by omega)]
end Val
end Go.Proofs.YtegfcmnbljdcpaaGreatDoor

/-
  Layer 6, the reference: compare of lists, maps and null; Cmp.
-/
namespace Go.Proofs.YtegfcmnbljdcpaaGreatDoor
open Go.RowKit Go.ChangeShapes Go.WideShapes
namespace Val

end Val
end Go.Proofs.YtegfcmnbljdcpaaGreatDoor

/-
  Layer 6, the reference: Cmp.
-/
namespace Go.Proofs.YtegfcmnbljdcpaaGreatDoor
open Go.RowKit Go.ChangeShapes Go.WideShapes
namespace Val

/-- What Cmp answers. -/
def cmpB (a b : List Cel) : Int := if chk a = 0 ∧ chk b = 0 then (match par a, par b with
  | some s, some t => cmp s t
  | _, _ => 0) else 0
end Val
end Go.Proofs.YtegfcmnbljdcpaaGreatDoor

/-
  Layer 6, the reference: starts, readString.
-/
namespace Go.Proofs.YtegfcmnbljdcpaaGreatDoor
open Go.RowKit Go.ChangeShapes Go.WideShapes
namespace Val

theorem cut_mid (s : ByteArray) (i j : Nat) (zi zj : Int) (hi : zi = (i : Int)) (hj : zj = (j : Int)) (h1 : i ≤ j) (h2 : j ≤ s.size) (w : World) :
    (Instr.slice 9 (.string s) (some (.int .i64 zi)) (some (.int .i64 zj)) none).run Tryz.prog w = .ok (.string (s.extract i j)) w := by
  subst hi hj
  rw [run_slice_string_if w 9 s .i64 .i64 (i : Int) (j : Int) Tryz.underlying9, if_pos ⟨by omega, by omega⟩, if_pos ⟨by omega, by omega⟩, Int.toNat_natCast, Int.toNat_natCast]
theorem ext_list (s : ByteArray) (i j : Nat) : (s.extract i j).toList = (s.toList.drop i).take (j - i) := by
  rw [toL, toL, ByteArray.data_extract, Array.toList_extract]
/-- What readString reads. -/
def strB (l : Txt) : Option (Txt × Txt) := match l with
  | [] => none
  | c :: r => if c = 34 then rdS r else none
/-- The index where what is left begins, or -1. -/
def ixR {α : Type} (n : Nat) : Option (α × Txt) → Int
  | none => -1
  | some (_, q) => (n : Int) - (q.length : Int)
def txR : Option (Txt × Txt) → Txt
  | none => []
  | some (t, _) => t
def preR (O : Txt) : Option (Txt × Txt) → Option (Txt × Txt)
  | none => none
  | some (t, q) => some (O ++ t, q)
theorem drop_at {s : ByteArray} {k : Nat} (h : k < s.size) : s.toList.drop k = s[k] :: s.toList.drop (k + 1) := by
  have hl : k < s.toList.length := by rw [toL_len]; exact h
  rw [List.drop_eq_getElem_cons hl, toL_get s k h]
theorem pre_one (O : Txt) (c : UInt8) (x : Option (Txt × Txt)) : preR O (match x with | none => none | some (s, t) => some (c :: s, t)) = preR (O ++ [c]) x := by
  cases x with
  | none => rfl
  | some y => obtain ⟨t, q⟩ := y; simp [preR]
theorem rdS_one {c : UInt8} {r : Txt} (h1 : c ≠ 34) (h2 : c ≠ 92) (O : Txt) : preR O (rdS (c :: r)) = preR (O ++ [c]) (rdS r) := by
  rw [← pre_one, rdS.eq_def]
  simp only [if_neg h1, if_neg h2]
  rfl
theorem rdS_two {d : UInt8} {r : Txt} (h : d = 34 ∨ d = 92) (O : Txt) : preR O (rdS (92 :: d :: r)) = preR (O ++ [d]) (rdS r) := by
  rw [← pre_one, rdS, if_neg (by decide), if_pos rfl]
  simp only [if_pos h]
  rfl
theorem rdS_bad {d : UInt8} {r : Txt} (h : ¬ (d = 34 ∨ d = 92)) : rdS (92 :: d :: r) = none := by
  rw [rdS, if_neg (by decide), if_pos rfl]
  simp only [if_neg h]
theorem rdS_cut : rdS [92] = none := by
  rw [rdS, if_neg (by decide), if_pos rfl]
theorem n34 (c : UInt8) : ((c.toNat : Int) != 34) = !decide (c = 34) := by rw [← b34]; rfl
theorem n92 (c : UInt8) : ((c.toNat : Int) != 92) = !decide (c = 92) := by rw [← b92]; rfl
end Val
end Go.Proofs.YtegfcmnbljdcpaaGreatDoor

/-
  Layer 6, the reference: what readInt reads, plainly.
-/
namespace Go.Proofs.YtegfcmnbljdcpaaGreatDoor
open Go.RowKit
namespace Val

/-- The integer that readInt tells. -/
def clampI (n : Int) : Int := if n.natAbs < 1000000000000000000 then n else if n < 0 then -2000000000000 else 2000000000000
def intR (l : Txt) : Option (Int × Txt) := (rdI l).map fun x => (clampI x.1, x.2)
theorem valD_lt : ∀ l : Txt, l.all isD = true → valD l < 10 ^ l.length := by
  refine rev_ind ?_ ?_
  · intro _; decide
  · intro l c ih h
    rw [List.all_append, Bool.and_eq_true] at h
    have h1 := ih h.1
    have h2 := isD_bd (c := c) (by simpa using h.2)
    rw [valD_snoc, List.length_append, List.length_singleton, Nat.pow_succ]
    omega
theorem valD_ge : ∀ l : Txt, l.all isD = true → l ≠ [] → l.head? ≠ some 48 → 10 ^ (l.length - 1) ≤ valD l := by
  refine rev_ind ?_ ?_
  · intro _ h; exact absurd rfl h
  · intro l c ih h _ hh
    rw [List.all_append, Bool.and_eq_true] at h
    by_cases h0 : l = []
    · subst h0
      have h1 := val_pos (l := [] ++ [c]) (by simpa using h.2) (by simp) hh
      simpa using h1
    · have h1 := ih h.1 h0 (by cases l with
        | nil => exact absurd rfl h0
        | cons a r => simpa using hh)
      have hp : 0 < l.length := List.length_pos_iff.2 h0
      rw [valD_snoc, List.length_append, List.length_singleton, Nat.add_sub_cancel]
      obtain ⟨n, hn⟩ : ∃ n, l.length = n + 1 := ⟨l.length - 1, by omega⟩
      rw [hn] at h1 ⊢
      rw [Nat.add_sub_cancel] at h1
      rw [Nat.pow_succ]
      omega
theorem pow18 {n m : Nat} (h : n ≤ m) : 10 ^ n ≤ 10 ^ m := Nat.pow_le_pow_right (by decide) h
/-- The digits at a place. -/
def digs (s : ByteArray) (f : Nat) : Txt := (s.toList.drop f).takeWhile isD
theorem digs_all (s : ByteArray) (f : Nat) : (digs s f).all isD = true := by
  unfold digs
  generalize s.toList.drop f = l
  induction l with
  | nil => rfl
  | cons c l ih =>
    simp only [List.takeWhile]
    cases h : isD c with
    | true => simp [h, ih]
    | false => rfl
theorem digs_le (s : ByteArray) (f : Nat) : f + (digs s f).length ≤ s.size ∨ (digs s f).length = 0 := by
  have h : (digs s f).length ≤ (s.toList.drop f).length := (List.takeWhile_prefix isD).length_le
  rw [List.length_drop, toL_len] at h
  omega
theorem digs_get {s : ByteArray} {f k : Nat} (h : k < (digs s f).length) : ∃ h2 : f + k < s.size, (digs s f)[k] = s[f + k] ∧ isD s[f + k] = true := by
  have h1 : f + k < s.size := by have := digs_le s f; omega
  have hp : digs s f <+: s.toList.drop f := List.takeWhile_prefix isD
  have e : (digs s f)[k] = s[f + k] := by
    have := hp.getElem h
    rw [this, List.getElem_drop]
    exact toL_get s (f + k) h1
  refine ⟨h1, e, ?_⟩
  rw [← e]
  exact List.all_eq_true.1 (digs_all s f) _ (List.getElem_mem h)
theorem digs_end {s : ByteArray} {f : Nat} (h : f + (digs s f).length < s.size) : isD s[f + (digs s f).length] = false := by
  have e : s.toList.drop f = digs s f ++ (s.toList.drop f).dropWhile isD := (List.takeWhile_append_dropWhile ..).symm
  have hb := beg_drop (s.toList.drop f)
  have e2 : s.toList.drop (f + (digs s f).length) = (s.toList.drop f).dropWhile isD := by
    rw [← List.drop_drop]
    conv => lhs; rw [e]
    exact List.drop_left
  rw [← e2, drop_at h] at hb
  exact hb
theorem digs_drop (s : ByteArray) (f : Nat) : (s.toList.drop f).dropWhile isD = s.toList.drop (f + (digs s f).length) := by
  have e : s.toList.drop f = digs s f ++ (s.toList.drop f).dropWhile isD := (List.takeWhile_append_dropWhile ..).symm
  rw [← List.drop_drop]
  conv => rhs; rw [e]
  exact List.drop_left.symm
/-- What the digits tell. -/
def told (D : Txt) : Int := if 18 < D.length then 2000000000000 else (valD D : Int)
theorem told_eq {D : Txt} (h : okD D = true) : clampI (valD D : Int) = told D ∧ (D ≠ [48] → clampI (-(valD D : Int)) = -told D) := by
  unfold okD at h
  simp only [Bool.and_eq_true, Bool.or_eq_true, beq_iff_eq, Bool.not_eq_true', bne_iff_ne] at h
  have h1 := valD_lt D h.1.1
  unfold told clampI
  by_cases hl : 18 < D.length
  · have hh : D.head? ≠ some 48 := by
      rcases h.2 with rfl | h2
      · simp at hl
      · exact h2
    have h2 := valD_ge D h.1.1 (fun e => by rw [e] at hl; simp at hl) hh
    have h3 : 10 ^ 18 ≤ 10 ^ (D.length - 1) := pow18 (by omega)
    have h4 : (10 : Nat) ^ 18 = 1000000000000000000 := by decide
    rw [if_pos hl, if_neg (by omega), if_neg (by omega), if_neg (by omega), if_pos (by omega)]
    exact ⟨rfl, fun _ => rfl⟩
  · have h3 : 10 ^ D.length ≤ 10 ^ 18 := pow18 (by omega)
    have h4 : (10 : Nat) ^ 18 = 1000000000000000000 := by decide
    rw [if_neg hl, if_pos (by omega), if_pos (by omega)]
    exact ⟨rfl, fun _ => rfl⟩
end Val
end Go.Proofs.YtegfcmnbljdcpaaGreatDoor

/-
  Layer 6, the reference: readInt.
-/
namespace Go.Proofs.YtegfcmnbljdcpaaGreatDoor
open Go.RowKit Go.ChangeShapes Go.WideShapes
namespace Val

def intC : Option (Int × Txt) → List Cel
  | none => []
  | some (n, _) => [⟨3, n, [], 0⟩]
theorem n45 (c : UInt8) : ((c.toNat : Int) == 45) = decide (c = 45) := by
  rw [Bool.eq_iff_iff, beq_iff_eq, decide_eq_true_eq]
  constructor
  · intro h; apply UInt8.toNat_inj.1; have : (45 : UInt8).toNat = 45 := rfl; omega
  · rintro rfl; rfl
theorem n48 (c : UInt8) : ((c.toNat : Int) == 48) = decide (c = 48) := by
  rw [Bool.eq_iff_iff, beq_iff_eq, decide_eq_true_eq]
  constructor
  · intro h; apply UInt8.toNat_inj.1; have : (48 : UInt8).toNat = 48 := rfl; omega
  · rintro rfl; rfl
theorem not_isD {c : UInt8} (h : isD c = false) : ((c.toNat : Int) < 48) ∨ (57 < (c.toNat : Int)) := by
  unfold isD at h
  simp at h
  omega
theorem okD_nil : okD [] = false := rfl
theorem okD_zero {D : Txt} (h : 0 < D.length) (h0 : D[0] = 48) : okD D = decide (D.length = 1) := by
  cases D with
  | nil => simp at h
  | cons c r =>
    simp at h0
    subst h0
    cases r with
    | nil => rfl
    | cons d r => simp [okD]
theorem okD_one {D : Txt} (ha : D.all isD = true) (h : 0 < D.length) (h0 : ¬ D[0] = 48) : okD D = true ∧ D ≠ [48] := by
  cases D with
  | nil => simp at h
  | cons c r =>
    simp at h0
    refine ⟨?_, fun e => h0 (by cases e; rfl)⟩
    unfold okD
    rw [ha]
    simp [h0]
theorem valD_step {D : Txt} {k : Nat} (h : k < D.length) : valD (D.take (k + 1)) = valD (D.take k) * 10 + (D[k].toNat - 48) := by
  rw [List.take_succ_eq_append_getElem h, valD_snoc]
theorem take_bd {D : Txt} (ha : D.all isD = true) {k : Nat} (h : k < 18) : valD (D.take k) ≤ 99999999999999999 := by
  have h1 := valD_lt (D.take k) (by
    rw [List.all_eq_true] at ha ⊢
    exact fun x hx => ha x (List.mem_of_mem_take hx))
  have h2 : 10 ^ (D.take k).length ≤ 10 ^ 17 := pow18 (by simp; omega)
  have h4 : (10 : Nat) ^ 17 = 100000000000000000 := by decide
  omega
theorem take_bd2 {D : Txt} (ha : D.all isD = true) {k : Nat} (h : k ≤ 18) : valD (D.take k) ≤ 999999999999999999 := by
  have h1 := valD_lt (D.take k) (by
    rw [List.all_eq_true] at ha ⊢
    exact fun x hx => ha x (List.mem_of_mem_take hx))
  have h2 : 10 ^ (D.take k).length ≤ 10 ^ 18 := pow18 (by simp; omega)
  have h4 : (10 : Nat) ^ 18 = 1000000000000000000 := by decide
  omega
end Val
end Go.Proofs.YtegfcmnbljdcpaaGreatDoor
