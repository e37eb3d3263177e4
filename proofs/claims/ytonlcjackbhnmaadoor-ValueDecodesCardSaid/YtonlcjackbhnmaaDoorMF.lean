/-
  Layer 6, texts merged: the reference's order and small readers. For every argument within the bounds that each theorem names.
-/
import Derived.Test.YtonlcjackbhnmaaDoorME
import Derived.Test.YtonlcjackbhnmaaDoorMA
import Derived.Laws.Cover1

/-
  Layer 6, the reference: order, words; compare of values of different kinds and of scalars.
-/
namespace Go.Proofs.YtonlcjackbhnmaaDoor
open Go.RowKit Go.ChangeShapes Go.WideShapes
namespace Val

/-- The first cell of a value. -/
def hdC : V → Cel
  | .null => ⟨1, 0, [], 0⟩
  | .bool b => ⟨2, b2i b, [], 0⟩
  | .int n => ⟨3, n, [], 0⟩
  | .str s => ⟨4, 0, s, 0⟩
  | .list l => ⟨5, 0, [], (lenL l : Int)⟩
  | .map m => ⟨6, 0, [], (lenM m : Int)⟩
def tlC : V → List Cel
  | .list l => flatL l
  | .map m => flatM m
  | _ => []
theorem flat_hd (t : V) : flat t = hdC t :: tlC t := by cases t <;> rfl
theorem hd_kind (t : V) : (hdC t).k = kind t := by cases t <;> rfl
theorem cmp_kinds {s t : V} (h : kind s ≠ kind t) : cmp s t = ord (kind s) (kind t) := by
  cases s <;> cases t <;> first | rfl | exact absurd rfl h
/-- Where the first cells stand. -/
theorem cmp_heads {la lb r1 r2 : List Cel} {s t : V} {i k n1 n2 : Nat} {o1 o2 : Option Addr} {w : World} (h1 : la.drop i = flat s ++ r1) (h2 : lb.drop k = flat t ++ r2) (hA : CArg w o1 n1 la) (hB : CArg w o2 n2 lb) :
    i < n1 ∧ k < n2 ∧ ∃ b1 f1 b2 f2, o1 = some ⟨b1, f1, none⟩ ∧ o2 = some ⟨b2, f2, none⟩ ∧ CAt w b1 (f1 + i * 4) (hdC s) ∧ CAt w b2 (f2 + k * 4) (hdC t) ∧ la.drop (i + 1) = tlC s ++ r1 ∧ lb.drop (k + 1) = tlC t ++ r2 := by
  rw [flat_hd, List.cons_append] at h1 h2
  obtain ⟨hi, hc, hd⟩ := cell_of h1
  obtain ⟨hk, hc2, hd2⟩ := cell_of h2
  have e1 := hA.1
  have e2 := hB.1
  obtain ⟨b1, f1, rfl, g1⟩ := hA.2.2 (by omega)
  obtain ⟨b2, f2, rfl, g2⟩ := hB.2.2 (by omega)
  refine ⟨by omega, by omega, b1, f1, b2, f2, rfl, rfl, ?_, ?_, hd, hd2⟩
  · rw [← hc]; exact g1 i hi
  · rw [← hc2]; exact g2 k hk
end Val
end Go.Proofs.YtonlcjackbhnmaaDoor

/-
  Layer 6, the reference: compare of lists, maps and null; Cmp.
-/
namespace Go.Proofs.YtonlcjackbhnmaaDoor
open Go.RowKit Go.ChangeShapes Go.WideShapes
namespace Val

theorem ordn_lt {a b : Nat} (h : a < b) : ord (a : Int) (b : Int) = -1 := if_pos (by omega)
theorem ordn_gt {a b : Nat} (h : b < a) : ord (a : Int) (b : Int) = 1 := by unfold ord; rw [if_neg (by omega), if_pos (by omega)]
theorem ordn_eq (a : Int) : ord a a = 0 := by unfold ord; rw [if_neg (by omega), if_neg (by omega)]
end Val
end Go.Proofs.YtonlcjackbhnmaaDoor

/-
  Layer 6, the reference: compare of lists, maps and null; Cmp.
-/
namespace Go.Proofs.YtonlcjackbhnmaaDoor
open Go.RowKit Go.ChangeShapes Go.WideShapes
namespace Val

end Val
end Go.Proofs.YtonlcjackbhnmaaDoor

/-
  Layer 6, the reference: Cmp.
-/
namespace Go.Proofs.YtonlcjackbhnmaaDoor
open Go.RowKit Go.ChangeShapes Go.WideShapes
namespace Val

/-- What Cmp answers. -/
def cmpB (a b : List Cel) : Int := if chk a = 0 ∧ chk b = 0 then (match par a, par b with
  | some s, some t => cmp s t
  | _, _ => 0) else 0
end Val
end Go.Proofs.YtonlcjackbhnmaaDoor

/-
  Layer 6, the reference: starts, readString.
-/
namespace Go.Proofs.YtonlcjackbhnmaaDoor
open Go.RowKit Go.ChangeShapes Go.WideShapes
namespace Val

theorem cut_mid (s : ByteArray) (i j : Nat) (zi zj : Int) (hi : zi = (i : Int)) (hj : zj = (j : Int)) (h1 : i ≤ j) (h2 : j ≤ s.size) (w : World) :
    (Instr.slice 9 (.string s) (some (.int .i64 zi)) (some (.int .i64 zj)) none).run Tryd.prog w = .ok (.string (s.extract i j)) w := by
  subst hi hj
  rw [run_slice_string_if w 9 s .i64 .i64 (i : Int) (j : Int) Tryd.underlying9, if_pos ⟨by omega, by omega⟩, if_pos ⟨by omega, by omega⟩, Int.toNat_natCast, Int.toNat_natCast]
theorem ext_list (s : ByteArray) (i j : Nat) : (s.extract i j).toList = (s.toList.drop i).take (j - i) := by
  rw [toL, toL, ByteArray.data_extract, Array.toList_extract]
theorem starts_any (s p : ByteArray) (i : Nat) (hs : s.size ≤ 1099511627776) (hi : i ≤ 1099511627776) (hp : p.size ≤ 1099511627776) (hp0 : 0 < p.size) (w : World) :
    Calls Tryd.prog 85 #[.string s, .int .i64 (i : Int), .string p] w fun e w' => e = .returned (.bool (p.toList.isPrefixOf (s.toList.drop i))) ∧ w = w' := by
  by_cases h : i + p.size ≤ s.size
  · have sl := fun w => cut_mid s i (i + p.size) (i : Int) ((i : Int) + (p.size : Int)) rfl (by omega) (by omega) h w
    have hz : Hid (((s.extract i (i + p.size)).toList == p.toList) = p.toList.isPrefixOf (s.toList.drop i)) := Lib.hid (by
      rw [ext_list, Nat.add_sub_cancel_left, Bool.eq_iff_iff, beq_iff_eq, List.isPrefixOf_iff_prefix, List.prefix_iff_eq_take, toL_len]
      exact ⟨fun h => h.symm, fun h => h.symm⟩)
    generalize s.extract i (i + p.size) = X at *
    generalize p.toList.isPrefixOf (s.toList.drop i) = R at *
    have h2 : (i : Int) + (p.size : Int) ≤ (s.size : Int) := by omega
    go_enter Tryd.func85, Tryd.ntmps85
    go_wp2
    go_ret
    exact ⟨by rw [← hz.out]; rfl, rfl⟩
  · have hz : Hid (p.toList.isPrefixOf (s.toList.drop i) = false) := Lib.hid (by
      rw [Bool.eq_false_iff]
      intro k
      rw [List.isPrefixOf_iff_prefix] at k
      have := k.length_le
      rw [List.length_drop, toL_len, toL_len] at this
      omega)
    generalize p.toList.isPrefixOf (s.toList.drop i) = R at *
    have h2 : ¬ (i : Int) + (p.size : Int) ≤ (s.size : Int) := by omega
    go_enter Tryd.func85, Tryd.ntmps85
    go_wp2
    go_ret
    exact ⟨by rw [hz.out]; rfl, rfl⟩
/-- What readString reads. -/
def strB (l : Txt) : Option (Txt × Txt) := match l with
  | [] => none
  | c :: r => if c = 34 then rdS r else none
/-- The index where what is left begins, or -1. -/
def ixR {α : Type} (n : Nat) : Option (α × Txt) → Int
  | none => -1
  | some (_, q) => (n : Int) - (q.length : Int)
def txR : Option (Txt × Txt) → Txt
  | none => []
  | some (t, _) => t
def preR (O : Txt) : Option (Txt × Txt) → Option (Txt × Txt)
  | none => none
  | some (t, q) => some (O ++ t, q)
theorem drop_at {s : ByteArray} {k : Nat} (h : k < s.size) : s.toList.drop k = s[k] :: s.toList.drop (k + 1) := by
  have hl : k < s.toList.length := by rw [toL_len]; exact h
  rw [List.drop_eq_getElem_cons hl, toL_get s k h]
theorem pre_one (O : Txt) (c : UInt8) (x : Option (Txt × Txt)) : preR O (match x with | none => none | some (s, t) => some (c :: s, t)) = preR (O ++ [c]) x := by
  cases x with
  | none => rfl
  | some y => obtain ⟨t, q⟩ := y; simp [preR]
theorem rdS_one {c : UInt8} {r : Txt} (h1 : c ≠ 34) (h2 : c ≠ 92) (O : Txt) : preR O (rdS (c :: r)) = preR (O ++ [c]) (rdS r) := by
  rw [← pre_one, rdS.eq_def]
  simp only [if_neg h1, if_neg h2]
  rfl
theorem rdS_two {d : UInt8} {r : Txt} (h : d = 34 ∨ d = 92) (O : Txt) : preR O (rdS (92 :: d :: r)) = preR (O ++ [d]) (rdS r) := by
  rw [← pre_one, rdS, if_neg (by decide), if_pos rfl]
  simp only [if_pos h]
  rfl
theorem rdS_bad {d : UInt8} {r : Txt} (h : ¬ (d = 34 ∨ d = 92)) : rdS (92 :: d :: r) = none := by
  rw [rdS, if_neg (by decide), if_pos rfl]
  simp only [if_neg h]
theorem rdS_cut : rdS [92] = none := by
  rw [rdS, if_neg (by decide), if_pos rfl]
theorem n34 (c : UInt8) : ((c.toNat : Int) != 34) = !decide (c = 34) := by rw [← b34]; rfl
theorem n92 (c : UInt8) : ((c.toNat : Int) != 92) = !decide (c = 92) := by rw [← b92]; rfl
set_option maxHeartbeats 2000000 in
theorem readString_any (s : ByteArray) (i : Nat) (hs : s.size ≤ 1099511627776) (hi : i ≤ s.size) (w : World) :
    Calls Tryd.prog 86 #[.string s, .int .i64 (i : Int)] w fun e w' => e = .returned (.tuple #[.string ⟨(txR (strB (s.toList.drop i))).toArray⟩, .int .i64 (ixR s.size (strB (s.toList.drop i)))]) ∧ w = w' := by
  obtain ⟨R, hR⟩ : ∃ R, strB (s.toList.drop i) = R := ⟨_, rfl⟩
  rw [hR]
  by_cases hlt : i < s.size
  · rw [drop_at hlt, strB] at hR
    by_cases hq : s[i] = 34
    · rw [if_pos hq] at hR
      have HR := Lib.hid hR
      have h34 := n34 s[i]
      rw [decide_eq_true hq] at h34
      clear hR hq
      go_enter Tryd.func86, Tryd.ntmps86
      go_wp2
      go_loop [6, 7] (fun o j => ∃ (k : Nat) (O : ByteArray), o = .string O ∧ j = .int .i64 (k : Int) ∧ k ≤ s.size ∧ O.size ≤ k ∧ Hid (preR O.toList (rdS (s.toList.drop k)) = R)) (fun _ j => s.size - (intOf j).toNat)
      case atStart => exact ⟨i + 1, ⟨#[]⟩, rfl, by go_num, by omega, Nat.zero_le _, Lib.hid (by rw [tl [], HR.out]; cases R <;> rfl)⟩
      case round =>
        obtain ⟨k, O, rfl, rfl, hk, hO, hr⟩ := hrel
        clear HR
        by_cases hkl : k < s.size
        · have hst := hr.out
          rw [drop_at hkl] at hst
          have h34 := n34 s[k]
          have h92 := b92 s[k]
          have e1 := size_lit s[k]
          have sl := fun w => cut1 s k (k : Int) ((k : Int) + 1) rfl rfl hkl w
          by_cases q1 : s[k] = 34
          · rw [decide_eq_true q1] at h34
            rw [q1, show rdS (34 :: s.toList.drop (k + 1)) = some ([], s.toList.drop (k + 1)) by rw [rdS.eq_def]; rfl] at hst
            simp only [preR, List.append_nil] at hst
            have hz : Hid (R = some (O.toList, s.toList.drop (k + 1))) := Lib.hid hst.symm
            have hix : Hid (ixR s.size R = (k : Int) + 1) := Lib.hid (by rw [hz.out]; simp only [ixR, List.length_drop, toL_len]; omega)
            have htx : Hid (⟨(txR R).toArray⟩ = O) := Lib.hid (by rw [hz.out]; exact str_back O)
            clear hst hr q1 h92 sl hz
            go_wp2
            go_ret2
            exact ⟨by rw [hix.out, htx.out]; rfl, rfl⟩
          · rw [decide_eq_false q1] at h34
            by_cases q2 : s[k] = 92
            · rw [decide_eq_true q2] at h92
              rw [q2] at hst
              by_cases hk2 : k + 1 < s.size
              · rw [drop_at hk2] at hst
                have g34 := n34 s[k + 1]
                have g92 := n92 s[k + 1]
                have e2 := size_lit s[k + 1]
                have sl2 := fun w => cut1 s (k + 1) ((k : Int) + 1) ((k : Int) + 1 + 1) (by omega) (by omega) hk2 w
                by_cases q3 : s[k + 1] = 34 ∨ s[k + 1] = 92
                · rw [rdS_two q3] at hst
                  rw [← app_list] at hst
                  have hr2 := Lib.hid hst
                  rcases q3 with q3 | q3
                  · rw [decide_eq_true q3] at g34
                    clear g92 hst hr q1 q2 q3 sl
                    go_wp2
                    go_round
                    case rel =>
                      rw [show decide (s.size ≤ i) = false from decide_eq_false (by omega)]
                      exact ⟨trivial, _, _, _, .int .i64 ((k : Int) + 1 + 1), _, _, _, _, _, _, _, _, _, _, _, _, _, _, _, _, _, _, _, _, _, _, _, _, _, _, _, _, _, _, _, _, _, _, _, _, _, _, _, _, _, ⟨k + 1 + 1, _, rfl, by go_num, by omega, by simp only [ByteArray.size_append, e2]; omega, hr2⟩, rfl⟩
                    case measure => simp [intOf]; omega
                  · rw [decide_eq_true q3] at g92
                    rw [decide_eq_false (by rw [q3]; decide)] at g34
                    clear hst hr q1 q2 q3 sl
                    go_wp2
                    go_round
                    case rel =>
                      rw [show decide (s.size ≤ i) = false from decide_eq_false (by omega)]
                      exact ⟨trivial, _, _, _, .int .i64 ((k : Int) + 1 + 1), _, _, _, _, _, _, _, _, _, _, _, _, _, _, _, _, _, _, _, _, _, _, _, _, _, _, _, _, _, _, _, _, _, _, _, _, _, _, _, _, _, ⟨k + 1 + 1, _, rfl, by go_num, by omega, by simp only [ByteArray.size_append, e2]; omega, hr2⟩, rfl⟩
                    case measure => simp [intOf]; omega
                · rw [rdS_bad q3] at hst
                  rw [decide_eq_false (fun h => q3 (Or.inl h))] at g34
                  rw [decide_eq_false (fun h => q3 (Or.inr h))] at g92
                  have hz := Lib.hid (show R = none from hst.symm)
                  clear hst hr q1 q2 q3 sl sl2
                  go_wp2
                  go_ret2
                  exact ⟨by rw [hz.out]; rfl, rfl⟩
              · have hd : s.toList.drop (k + 1) = [] := List.drop_of_length_le (by rw [toL_len]; omega)
                rw [hd, rdS_cut] at hst
                have hz := Lib.hid (show R = none from hst.symm)
                clear hst hr q1 q2 sl hd
                go_wp2
                go_ret2
                exact ⟨by rw [hz.out]; rfl, rfl⟩
            · rw [decide_eq_false q2] at h92
              rw [rdS_one q1 q2, ← app_list] at hst
              have hr2 := Lib.hid hst
              clear hst hr q1 q2
              go_wp2
              go_round
              case rel => exact ⟨k + 1, _, rfl, by go_num, by omega, by simp only [ByteArray.size_append, e1]; omega, hr2⟩
              case measure => simp [intOf]; omega
        · obtain rfl : k = s.size := by omega
          have hst := hr.out
          rw [List.drop_of_length_le (by rw [toL_len]; omega), show rdS [] = none from rfl] at hst
          have hz := Lib.hid (show R = none from hst.symm)
          clear hst hr
          go_wp2
          go_ret2
          exact ⟨by rw [hz.out]; rfl, rfl⟩
    · rw [if_neg hq] at hR
      have hz := Lib.hid (show R = none from hR.symm)
      have h34 := n34 s[i]
      rw [decide_eq_false hq] at h34
      clear hR hq
      go_enter Tryd.func86, Tryd.ntmps86
      go_wp2
      go_ret2
      exact ⟨by rw [hz.out]; rfl, rfl⟩
  · rw [List.drop_of_length_le (by rw [toL_len]; omega)] at hR
    have hz := Lib.hid (show R = none from hR.symm)
    clear hR
    go_enter Tryd.func86, Tryd.ntmps86
    go_wp2
    go_ret2
    exact ⟨by rw [hz.out]; rfl, rfl⟩
end Val
end Go.Proofs.YtonlcjackbhnmaaDoor

/-
  Layer 6, the reference: what readInt reads, plainly.
-/
namespace Go.Proofs.YtonlcjackbhnmaaDoor
open Go.RowKit
namespace Val

/-- The integer that readInt tells. -/
def clampI (n : Int) : Int := if n.natAbs < 1000000000000000000 then n else if n < 0 then -2000000000000 else 2000000000000
def intR (l : Txt) : Option (Int × Txt) := (rdI l).map fun x => (clampI x.1, x.2)
theorem valD_lt : ∀ l : Txt, l.all isD = true → valD l < 10 ^ l.length := by
  refine rev_ind ?_ ?_
  · intro _; decide
  · intro l c ih h
    rw [List.all_append, Bool.and_eq_true] at h
    have h1 := ih h.1
    have h2 := isD_bd (c := c) (by simpa using h.2)
    rw [valD_snoc, List.length_append, List.length_singleton, Nat.pow_succ]
    omega
theorem valD_ge : ∀ l : Txt, l.all isD = true → l ≠ [] → l.head? ≠ some 48 → 10 ^ (l.length - 1) ≤ valD l := by
  refine rev_ind ?_ ?_
  · intro _ h; exact absurd rfl h
  · intro l c ih h _ hh
    rw [List.all_append, Bool.and_eq_true] at h
    by_cases h0 : l = []
    · subst h0
      have h1 := val_pos (l := [] ++ [c]) (by simpa using h.2) (by simp) hh
      simpa using h1
    · have h1 := ih h.1 h0 (by cases l with
        | nil => exact absurd rfl h0
        | cons a r => simpa using hh)
      have hp : 0 < l.length := List.length_pos_iff.2 h0
      rw [valD_snoc, List.length_append, List.length_singleton, Nat.add_sub_cancel]
      obtain ⟨n, hn⟩ : ∃ n, l.length = n + 1 := ⟨l.length - 1, by omega⟩
      rw [hn] at h1 ⊢
      rw [Nat.add_sub_cancel] at h1
      rw [Nat.pow_succ]
      omega
theorem pow18 {n m : Nat} (h : n ≤ m) : 10 ^ n ≤ 10 ^ m := Nat.pow_le_pow_right (by decide) h
/-- The digits at a place. -/
def digs (s : ByteArray) (f : Nat) : Txt := (s.toList.drop f).takeWhile isD
theorem digs_all (s : ByteArray) (f : Nat) : (digs s f).all isD = true := by
  unfold digs
  generalize s.toList.drop f = l
  induction l with
  | nil => rfl
  | cons c l ih =>
    simp only [List.takeWhile]
    cases h : isD c with
    | true => simp [h, ih]
    | false => rfl
theorem digs_le (s : ByteArray) (f : Nat) : f + (digs s f).length ≤ s.size ∨ (digs s f).length = 0 := by
  have h : (digs s f).length ≤ (s.toList.drop f).length := (List.takeWhile_prefix isD).length_le
  rw [List.length_drop, toL_len] at h
  omega
theorem digs_get {s : ByteArray} {f k : Nat} (h : k < (digs s f).length) : ∃ h2 : f + k < s.size, (digs s f)[k] = s[f + k] ∧ isD s[f + k] = true := by
  have h1 : f + k < s.size := by have := digs_le s f; omega
  have hp : digs s f <+: s.toList.drop f := List.takeWhile_prefix isD
  have e : (digs s f)[k] = s[f + k] := by
    have := hp.getElem h
    rw [this, List.getElem_drop]
    exact toL_get s (f + k) h1
  refine ⟨h1, e, ?_⟩
  rw [← e]
  exact List.all_eq_true.1 (digs_all s f) _ (List.getElem_mem h)
theorem digs_end {s : ByteArray} {f : Nat} (h : f + (digs s f).length < s.size) : isD s[f + (digs s f).length] = false := by
  have e : s.toList.drop f = digs s f ++ (s.toList.drop f).dropWhile isD := (List.takeWhile_append_dropWhile ..).symm
  have hb := beg_drop (s.toList.drop f)
  have e2 : s.toList.drop (f + (digs s f).length) = (s.toList.drop f).dropWhile isD := by
    rw [← List.drop_drop]
    conv => lhs; rw [e]
    exact List.drop_left
  rw [← e2, drop_at h] at hb
  exact hb
theorem digs_drop (s : ByteArray) (f : Nat) : (s.toList.drop f).dropWhile isD = s.toList.drop (f + (digs s f).length) := by
  have e : s.toList.drop f = digs s f ++ (s.toList.drop f).dropWhile isD := (List.takeWhile_append_dropWhile ..).symm
  rw [← List.drop_drop]
  conv => rhs; rw [e]
  exact List.drop_left.symm
/-- What the digits tell. -/
def told (D : Txt) : Int := if 18 < D.length then 2000000000000 else (valD D : Int)
theorem told_eq {D : Txt} (h : okD D = true) : clampI (valD D : Int) = told D ∧ (D ≠ [48] → clampI (-(valD D : Int)) = -told D) := by
  unfold okD at h
  simp only [Bool.and_eq_true, Bool.or_eq_true, beq_iff_eq, Bool.not_eq_true', bne_iff_ne] at h
  have h1 := valD_lt D h.1.1
  unfold told clampI
  by_cases hl : 18 < D.length
  · have hh : D.head? ≠ some 48 := by
      rcases h.2 with rfl | h2
      · simp at hl
      · exact h2
    have h2 := valD_ge D h.1.1 (fun e => by rw [e] at hl; simp at hl) hh
    have h3 : 10 ^ 18 ≤ 10 ^ (D.length - 1) := pow18 (by omega)
    have h4 : (10 : Nat) ^ 18 = 1000000000000000000 := by decide
    rw [if_pos hl, if_neg (by omega), if_neg (by omega), if_neg (by omega), if_pos (by omega)]
    exact ⟨rfl, fun _ => rfl⟩
  · have h3 : 10 ^ D.length ≤ 10 ^ 18 := pow18 (by omega)
    have h4 : (10 : Nat) ^ 18 = 1000000000000000000 := by decide
    rw [if_neg hl, if_pos (by omega), if_pos (by omega)]
    exact ⟨rfl, fun _ => rfl⟩
end Val
end Go.Proofs.YtonlcjackbhnmaaDoor

/-
  Layer 6, the reference: readInt.
-/
namespace Go.Proofs.YtonlcjackbhnmaaDoor
open Go.RowKit Go.ChangeShapes Go.WideShapes
namespace Val

def intC : Option (Int × Txt) → List Cel
  | none => []
  | some (n, _) => [⟨3, n, [], 0⟩]
theorem n45 (c : UInt8) : ((c.toNat : Int) == 45) = decide (c = 45) := by
  rw [Bool.eq_iff_iff, beq_iff_eq, decide_eq_true_eq]
  constructor
  · intro h; apply UInt8.toNat_inj.1; have : (45 : UInt8).toNat = 45 := rfl; omega
  · rintro rfl; rfl
theorem n48 (c : UInt8) : ((c.toNat : Int) == 48) = decide (c = 48) := by
  rw [Bool.eq_iff_iff, beq_iff_eq, decide_eq_true_eq]
  constructor
  · intro h; apply UInt8.toNat_inj.1; have : (48 : UInt8).toNat = 48 := rfl; omega
  · rintro rfl; rfl
theorem not_isD {c : UInt8} (h : isD c = false) : ((c.toNat : Int) < 48) ∨ (57 < (c.toNat : Int)) := by
  unfold isD at h
  simp at h
  omega
theorem okD_nil : okD [] = false := rfl
theorem okD_zero {D : Txt} (h : 0 < D.length) (h0 : D[0] = 48) : okD D = decide (D.length = 1) := by
  cases D with
  | nil => simp at h
  | cons c r =>
    simp at h0
    subst h0
    cases r with
    | nil => rfl
    | cons d r => simp [okD]
theorem okD_one {D : Txt} (ha : D.all isD = true) (h : 0 < D.length) (h0 : ¬ D[0] = 48) : okD D = true ∧ D ≠ [48] := by
  cases D with
  | nil => simp at h
  | cons c r =>
    simp at h0
    refine ⟨?_, fun e => h0 (by cases e; rfl)⟩
    unfold okD
    rw [ha]
    simp [h0]
theorem valD_step {D : Txt} {k : Nat} (h : k < D.length) : valD (D.take (k + 1)) = valD (D.take k) * 10 + (D[k].toNat - 48) := by
  rw [List.take_succ_eq_append_getElem h, valD_snoc]
theorem take_bd {D : Txt} (ha : D.all isD = true) {k : Nat} (h : k < 18) : valD (D.take k) ≤ 99999999999999999 := by
  have h1 := valD_lt (D.take k) (by
    rw [List.all_eq_true] at ha ⊢
    exact fun x hx => ha x (List.mem_of_mem_take hx))
  have h2 : 10 ^ (D.take k).length ≤ 10 ^ 17 := pow18 (by simp; omega)
  have h4 : (10 : Nat) ^ 17 = 100000000000000000 := by decide
  omega
theorem take_bd2 {D : Txt} (ha : D.all isD = true) {k : Nat} (h : k ≤ 18) : valD (D.take k) ≤ 999999999999999999 := by
  have h1 := valD_lt (D.take k) (by
    rw [List.all_eq_true] at ha ⊢
    exact fun x hx => ha x (List.mem_of_mem_take hx))
  have h2 : 10 ^ (D.take k).length ≤ 10 ^ 18 := pow18 (by simp; omega)
  have h4 : (10 : Nat) ^ 18 = 1000000000000000000 := by decide
  omega
set_option maxRecDepth 100000 in
set_option maxHeartbeats 4000000 in
theorem readInt_pos (s : ByteArray) (i : Nat) (hs : s.size ≤ 1099511627776) (hi : i < s.size) (hc : ¬ s[i] = 45) (w : World) :
    Calls Tryd.prog 88 #[.string s, .int .i64 (i : Int)] w fun e w' => CRes w' e (intC (intR (s.toList.drop i))) (ixR s.size (intR (s.toList.drop i))) ∧ Bel w w' := by
  obtain ⟨R, hR⟩ : ∃ R, intR (s.toList.drop i) = R := ⟨_, rfl⟩
  rw [hR]
  obtain ⟨f, hf⟩ : ∃ f, i = f := ⟨_, rfl⟩
  obtain ⟨D, hD⟩ : ∃ D, digs s f = D := ⟨_, rfl⟩
  have hDa := digs_all s f
  have hDl := digs_le s f
  have hDg := fun k (h : k < (digs s f).length) => digs_get h
  have hDe := fun (h : f + (digs s f).length < s.size) => digs_end h
  have hDd := digs_drop s f
  have hR2 : R = if okD D then some (told D, s.toList.drop (f + D.length)) else none := by
    rw [← hR]
    unfold intR
    rw [drop_at hi, rdI]
    rw [if_neg hc, ← drop_at hi, hf]
    rw [show (s.toList.drop f).takeWhile isD = D from hD, hDd, hD]
    by_cases ho : okD D = true
    · have ht := told_eq ho
      simp [ho, ht.1]
    · simp [ho]
  rw [hD] at hDa hDl hDg hDe
  have h45 := n45 s[i]
  rw [decide_eq_false hc] at h45
  have HR := Lib.hid hR2
  have HG := Lib.hid hDg
  have HE := Lib.hid hDe
  have HA := Lib.hid hDa
  have hF : Hid (f = i) := Lib.hid hf.symm
  have HL := Lib.hid hDl
  clear hR hR2 hDg hDe hDd hD hDa hc hDl 
  subst hf
  have hfi : i ≤ s.size := by omega
  go_enter Tryd.func88, Tryd.ntmps88
  go_wp2
  go_loop [6, 8] (fun j' n' => ∃ (j k m : Nat), j' = .int .i64 (j : Int) ∧ n' = .int .i64 (m : Int) ∧ m ≤ 999999999999999999 ∧ k ≤ D.length ∧ j ≤ s.size ∧ Hid (j = i + k) ∧ Hid (m = valD (D.take (min k 18)))) (fun j' _ => s.size - (intOf j').toNat)
  case atStart => exact ⟨i, 0, 0, by go_num, rfl, by omega, Nat.zero_le _, by omega, Lib.hid rfl, Lib.hid rfl⟩
  case round =>
    obtain ⟨j, k, m, rfl, rfl, hm, hk, hj, hjk, hmv⟩ := hrel
    by_cases hlt : k < D.length
    · have g4 : ∃ h : j < s.size, D[k] = s[j] ∧ isD s[j] = true := by
        have e : j = i + k := by have := hjk.out; omega
        subst e
        exact HG.out k hlt
      obtain ⟨hjs, g2, g3⟩ := g4
      obtain ⟨b1, b2⟩ := isD_bd g3
      have u1 : IntKind.u8.wrap ((s[j].toNat : Int) - 48) = (s[j].toNat : Int) - 48 := by simp [IntKind.wrap, IntKind.signed, IntKind.bits]; omega
      have b3 : ¬ (s[j].toNat : Int) < 48 := by omega
      have b4 : ¬ 57 < (s[j].toNat : Int) := by omega
      by_cases hk18 : k < 18
      · have i1 : (j : Int) - (i : Int) < 18 := by have := hjk.out; omega
        have hm17 : m ≤ 99999999999999999 := by
          have h1 := hmv.out
          rw [Nat.min_eq_left (by omega)] at h1
          have h2 := take_bd HA.out hk18
          omega
        have hmv2 : Hid (m * 10 + (s[j].toNat - 48) = valD (D.take (min (k + 1) 18))) := Lib.hid (by
          rw [Nat.min_eq_left (by omega), valD_step hlt, g2, hmv.out, Nat.min_eq_left (by omega)])
        clear hmv g2 g3
        go_wp2
        go_round
        case rel => exact ⟨j + 1, k + 1, m * 10 + (s[j].toNat - 48), by go_num, by congr 1; omega, by omega, by omega, by omega, Lib.hid (by have := hjk.out; omega), hmv2⟩
        case measure => simp [intOf]; omega
      · have i1 : ¬ (j : Int) - (i : Int) < 18 := by have := hjk.out; omega
        have hmv2 : Hid (m = valD (D.take (min (k + 1) 18))) := Lib.hid (by
          rw [hmv.out, Nat.min_eq_right (by omega), Nat.min_eq_right (by omega)])
        clear hmv g2 g3
        go_wp2
        go_round
        case rel => exact ⟨j + 1, k + 1, m, by go_num, rfl, by omega, by omega, by omega, Lib.hid (by have := hjk.out; omega), hmv2⟩
        case measure => simp [intOf]; omega
    · have hkd : k = D.length := by omega
      subst hkd
      have hT : Hid (told D = if 18 < D.length then 2000000000000 else (m : Int)) := Lib.hid (by
        unfold told
        split
        · rfl
        · next h =>
          have h1 := hmv.out
          rw [Nat.min_eq_left (by omega), List.take_length] at h1
          rw [h1])
      have hex : j = s.size ∨ (∃ h : j < s.size, (s[j].toNat : Int) < 48) ∨ (∃ h : j < s.size, 57 < (s[j].toNat : Int)) := by
        by_cases hjs : j < s.size
        · have e : j = i + D.length := by have := hjk.out; omega
          have g : isD s[j] = false := by
            subst e
            exact HE.out hjs
          rcases not_isD g with h | h
          · exact .inr (.inl ⟨hjs, h⟩)
          · exact .inr (.inr ⟨hjs, h⟩)
        · exact .inl (by omega)
      have h1i : (i : Int) ≤ (j : Int) := by have := hjk.out; omega
      by_cases d0 : D.length = 0
      · have hz : Hid (R = none) := Lib.hid (by
          rw [HR.out, List.eq_nil_of_length_eq_zero d0]
          rfl)
        have hji : (j : Int) = (i : Int) := by have := hjk.out; omega
        have hji2 : ((j : Int) == (i : Int)) = true := by simpa using hji
        clear hT hmv hjk hji
        rcases hex with rfl | ⟨h, x⟩ | ⟨h, x⟩
        all_goals
          go_wp2
          go_ret2
          exact ⟨by rw [hz.out]; exact CRes.nil _ _, Bel.refl _⟩
      · have hji : ¬ (j : Int) = (i : Int) := by have := hjk.out; omega
        have hji2 : ((j : Int) == (i : Int)) = false := by simpa using hji
        clear hji
        have hg0 : ∃ (h : i < s.size) (h2 : 0 < D.length), D[0] = s[i] := by
          obtain ⟨p1, p2, _⟩ := HG.out 0 (by omega)
          have e : i + 0 = i := by omega
          refine ⟨by omega, by omega, ?_⟩
          rw [p2]
          congr 1
        obtain ⟨hf0, hd0, p2⟩ := hg0
        have h48 := n48 s[i]
        rw [← p2] at h48
        by_cases z48 : D[0] = 48
        · rw [decide_eq_true z48] at h48
          rw [p2] at h48
          by_cases h1 : D.length = 1
          · have hz : Hid (R = some ((m : Int), s.toList.drop (i + D.length))) := Lib.hid (by
              rw [HR.out, okD_zero hd0 z48, hT.out, if_neg (show ¬ 18 < D.length by omega)]
              simp [h1])
            have j1 : ¬ (i : Int) + 1 < (j : Int) := by have := hjk.out; omega
            have ho := h1
            have hne := h1
            have j18 : ¬ 18 < (j : Int) - (i : Int) := by have := hjk.out; omega
            have hix : Hid (ixR s.size R = (j : Int)) := Lib.hid (by
              rw [hz.out]
              have := hjk.out
              simp only [ixR, List.length_drop, toL_len]
              omega)
            have hcs : Hid (intC R = [⟨3, (m : Int), [], 0⟩]) := Lib.hid (by rw [hz.out]; rfl)
            clear hz hT hmv hjk ho hne
            rcases hex with rfl | ⟨h, x⟩ | ⟨h, x⟩
            all_goals
              go_wp2
              go_ret2
              exact ⟨by rw [hix.out, hcs.out]; exact ⟨_, 1, 1, rfl, lit_cArg0 w 3 ((m : Int)) 0 _ (fits_small _ _ _ _ (by omega) (by omega) (by omega) (by decide)), Nat.le_refl _⟩, Bel.alloc (Bel.refl _) _⟩
          · have hz : Hid (R = none) := Lib.hid (by
              rw [HR.out, okD_zero hd0 z48]
              simp [h1])
            have j1 : (i : Int) + 1 < (j : Int) := by have := hjk.out; omega
            clear hT hmv hjk
            rcases hex with rfl | ⟨h, x⟩ | ⟨h, x⟩
            all_goals
              go_wp2
              all_goals
                go_ret2
                exact ⟨by rw [hz.out]; exact CRes.nil _ _, Bel.refl _⟩
        · rw [decide_eq_false z48] at h48
          rw [p2] at h48
          obtain ⟨ho, hne⟩ := okD_one HA.out hd0 z48
          by_cases h18 : 18 < D.length
          · have hz : Hid (R = some (2000000000000, s.toList.drop (i + D.length))) := Lib.hid (by
              rw [HR.out, ho]
              rw [hT.out, if_pos h18]
              rfl)
            have j18 : 18 < (j : Int) - (i : Int) := by have := hjk.out; omega
            have hix : Hid (ixR s.size R = (j : Int)) := Lib.hid (by
              rw [hz.out]
              have := hjk.out
              simp only [ixR, List.length_drop, toL_len]
              omega)
            have hcs : Hid (intC R = [⟨3, 2000000000000, [], 0⟩]) := Lib.hid (by rw [hz.out]; rfl)
            clear hz hT hmv hjk ho hne
            rcases hex with rfl | ⟨h, x⟩ | ⟨h, x⟩
            all_goals
              go_wp2
              go_ret2
              exact ⟨by rw [hix.out, hcs.out]; exact ⟨_, 1, 1, rfl, lit_cArg0 w 3 (2000000000000) 0 _ (fits_small _ _ _ _ (by omega) (by omega) (by omega) (by decide)), Nat.le_refl _⟩, Bel.alloc (Bel.refl _) _⟩
          · have hz : Hid (R = some ((m : Int), s.toList.drop (i + D.length))) := Lib.hid (by
              rw [HR.out, ho]
              rw [hT.out, if_neg h18]
              rfl)
            have j18 : ¬ 18 < (j : Int) - (i : Int) := by have := hjk.out; omega
            have hix : Hid (ixR s.size R = (j : Int)) := Lib.hid (by
              rw [hz.out]
              have := hjk.out
              simp only [ixR, List.length_drop, toL_len]
              omega)
            have hcs : Hid (intC R = [⟨3, (m : Int), [], 0⟩]) := Lib.hid (by rw [hz.out]; rfl)
            clear hz hT hmv hjk ho hne
            rcases hex with rfl | ⟨h, x⟩ | ⟨h, x⟩
            all_goals
              go_wp2
              go_ret2
              exact ⟨by rw [hix.out, hcs.out]; exact ⟨_, 1, 1, rfl, lit_cArg0 w 3 ((m : Int)) 0 _ (fits_small _ _ _ _ (by omega) (by omega) (by omega) (by decide)), Nat.le_refl _⟩, Bel.alloc (Bel.refl _) _⟩
set_option maxRecDepth 100000 in
set_option maxHeartbeats 4000000 in
theorem readInt_neg (s : ByteArray) (i : Nat) (hs : s.size ≤ 1099511627776) (hi : i < s.size) (hc : s[i] = 45) (w : World) :
    Calls Tryd.prog 88 #[.string s, .int .i64 (i : Int)] w fun e w' => CRes w' e (intC (intR (s.toList.drop i))) (ixR s.size (intR (s.toList.drop i))) ∧ Bel w w' := by
  obtain ⟨R, hR⟩ : ∃ R, intR (s.toList.drop i) = R := ⟨_, rfl⟩
  rw [hR]
  obtain ⟨f, hf⟩ : ∃ f, i + 1 = f := ⟨_, rfl⟩
  obtain ⟨D, hD⟩ : ∃ D, digs s f = D := ⟨_, rfl⟩
  have hDa := digs_all s f
  have hDl := digs_le s f
  have hDg := fun k (h : k < (digs s f).length) => digs_get h
  have hDe := fun (h : f + (digs s f).length < s.size) => digs_end h
  have hDd := digs_drop s f
  have hR2 : R = if okD D && D != [48] then some (-told D, s.toList.drop (f + D.length)) else none := by
    rw [← hR]
    unfold intR
    rw [drop_at hi, rdI]
    rw [if_pos hc, hf]
    rw [show (s.toList.drop f).takeWhile isD = D from hD, hDd, hD]
    by_cases ho : okD D = true
    · have ht := told_eq ho
      by_cases h8 : D = [48]
      · simp [h8]
      · simp [ho, h8, ht.2 h8]
    · simp [ho]
  rw [hD] at hDa hDl hDg hDe
  have h45 := n45 s[i]
  rw [decide_eq_true hc] at h45
  have HR := Lib.hid hR2
  have HG := Lib.hid hDg
  have HE := Lib.hid hDe
  have HA := Lib.hid hDa
  have hF : Hid (f = i + 1) := Lib.hid hf.symm
  have HL := Lib.hid hDl
  clear hR hR2 hDg hDe hDd hD hDa hc hDl 
  clear hf
  have hfi : f ≤ s.size := by have := hF.out; omega
  go_enter Tryd.func88, Tryd.ntmps88
  go_wp2
  go_loop [6, 8] (fun j' n' => ∃ (j k m : Nat), j' = .int .i64 (j : Int) ∧ n' = .int .i64 (m : Int) ∧ m ≤ 999999999999999999 ∧ k ≤ D.length ∧ j ≤ s.size ∧ Hid (j = i + 1 + k) ∧ Hid (m = valD (D.take (min k 18)))) (fun j' _ => s.size - (intOf j').toNat)
  case atStart => exact ⟨i + 1, 0, 0, by go_num, rfl, by omega, Nat.zero_le _, by omega, Lib.hid rfl, Lib.hid rfl⟩
  case round =>
    obtain ⟨j, k, m, rfl, rfl, hm, hk, hj, hjk, hmv⟩ := hrel
    by_cases hlt : k < D.length
    · have g4 : ∃ h : j < s.size, D[k] = s[j] ∧ isD s[j] = true := by
        have e : j = f + k := by have := hjk.out; have := hF.out; omega
        subst e
        exact HG.out k hlt
      obtain ⟨hjs, g2, g3⟩ := g4
      obtain ⟨b1, b2⟩ := isD_bd g3
      have u1 : IntKind.u8.wrap ((s[j].toNat : Int) - 48) = (s[j].toNat : Int) - 48 := by simp [IntKind.wrap, IntKind.signed, IntKind.bits]; omega
      have b3 : ¬ (s[j].toNat : Int) < 48 := by omega
      have b4 : ¬ 57 < (s[j].toNat : Int) := by omega
      by_cases hk18 : k < 18
      · have i1 : (j : Int) - ((i : Int) + 1) < 18 := by have := hjk.out; omega
        have hm17 : m ≤ 99999999999999999 := by
          have h1 := hmv.out
          rw [Nat.min_eq_left (by omega)] at h1
          have h2 := take_bd HA.out hk18
          omega
        have hmv2 : Hid (m * 10 + (s[j].toNat - 48) = valD (D.take (min (k + 1) 18))) := Lib.hid (by
          rw [Nat.min_eq_left (by omega), valD_step hlt, g2, hmv.out, Nat.min_eq_left (by omega)])
        clear hmv g2 g3
        go_wp2
        go_round
        case rel => exact ⟨j + 1, k + 1, m * 10 + (s[j].toNat - 48), by go_num, by congr 1; omega, by omega, by omega, by omega, Lib.hid (by have := hjk.out; omega), hmv2⟩
        case measure => simp [intOf]; omega
      · have i1 : ¬ (j : Int) - ((i : Int) + 1) < 18 := by have := hjk.out; omega
        have hmv2 : Hid (m = valD (D.take (min (k + 1) 18))) := Lib.hid (by
          rw [hmv.out, Nat.min_eq_right (by omega), Nat.min_eq_right (by omega)])
        clear hmv g2 g3
        go_wp2
        go_round
        case rel => exact ⟨j + 1, k + 1, m, by go_num, rfl, by omega, by omega, by omega, Lib.hid (by have := hjk.out; omega), hmv2⟩
        case measure => simp [intOf]; omega
    · have hkd : k = D.length := by omega
      subst hkd
      have hT : Hid (told D = if 18 < D.length then 2000000000000 else (m : Int)) := Lib.hid (by
        unfold told
        split
        · rfl
        · next h =>
          have h1 := hmv.out
          rw [Nat.min_eq_left (by omega), List.take_length] at h1
          rw [h1])
      have hex : j = s.size ∨ (∃ h : j < s.size, (s[j].toNat : Int) < 48) ∨ (∃ h : j < s.size, 57 < (s[j].toNat : Int)) := by
        by_cases hjs : j < s.size
        · have e : j = f + D.length := by have := hjk.out; have := hF.out; omega
          have g : isD s[j] = false := by
            subst e
            exact HE.out hjs
          rcases not_isD g with h | h
          · exact .inr (.inl ⟨hjs, h⟩)
          · exact .inr (.inr ⟨hjs, h⟩)
        · exact .inl (by omega)
      have h1i : (i : Int) + 1 ≤ (j : Int) := by have := hjk.out; omega
      by_cases d0 : D.length = 0
      · have hz : Hid (R = none) := Lib.hid (by
          rw [HR.out, List.eq_nil_of_length_eq_zero d0]
          rfl)
        have hji : (j : Int) = (i : Int) + 1 := by have := hjk.out; omega
        have hji2 : ((j : Int) == ((i : Int) + 1)) = true := by simpa using hji
        clear hT hmv hjk hji
        rcases hex with rfl | ⟨h, x⟩ | ⟨h, x⟩
        all_goals
          go_wp2
          go_ret2
          exact ⟨by rw [hz.out]; exact CRes.nil _ _, Bel.refl _⟩
      · have hji : ¬ (j : Int) = (i : Int) + 1 := by have := hjk.out; omega
        have hji2 : ((j : Int) == ((i : Int) + 1)) = false := by simpa using hji
        clear hji
        have hg0 : ∃ (h : i + 1 < s.size) (h2 : 0 < D.length), D[0] = s[i + 1] := by
          obtain ⟨p1, p2, _⟩ := HG.out 0 (by omega)
          have e : f + 0 = i + 1 := by have := hF.out; omega
          refine ⟨by omega, by omega, ?_⟩
          rw [p2]
          congr 1
        obtain ⟨hf0, hd0, p2⟩ := hg0
        have h48 := n48 s[i + 1]
        rw [← p2] at h48
        by_cases z48 : D[0] = 48
        · rw [decide_eq_true z48] at h48
          rw [p2] at h48
          have hz : Hid (R = none) := Lib.hid (by
            rw [HR.out, okD_zero hd0 z48]
            by_cases h1 : D.length = 1
            · have e : D = [48] := by
                obtain ⟨a, ha⟩ := List.length_eq_one_iff.1 h1
                subst ha
                simp at z48
                rw [z48]
              simp [e]
            · simp [h1])
          clear hT hmv hjk
          rcases hex with rfl | ⟨h, x⟩ | ⟨h, x⟩
          all_goals
            go_wp2
            all_goals
              go_ret2
              exact ⟨by rw [hz.out]; exact CRes.nil _ _, Bel.refl _⟩
        · rw [decide_eq_false z48] at h48
          rw [p2] at h48
          obtain ⟨ho, hne⟩ := okD_one HA.out hd0 z48
          by_cases h18 : 18 < D.length
          · have hz : Hid (R = some (-2000000000000, s.toList.drop (f + D.length))) := Lib.hid (by
              rw [HR.out, ho]
              rw [hT.out, if_pos h18]
              simp [hne])
            have j18 : 18 < (j : Int) - ((i : Int) + 1) := by have := hjk.out; omega
            have hix : Hid (ixR s.size R = (j : Int)) := Lib.hid (by
              rw [hz.out]
              have := hjk.out
              have := hF.out
              simp only [ixR, List.length_drop, toL_len]
              omega)
            have hcs : Hid (intC R = [⟨3, -2000000000000, [], 0⟩]) := Lib.hid (by rw [hz.out]; rfl)
            clear hz hT hmv hjk ho hne
            rcases hex with rfl | ⟨h, x⟩ | ⟨h, x⟩
            all_goals
              go_wp2
              go_ret2
              exact ⟨by rw [hix.out, hcs.out]; exact ⟨_, 1, 1, rfl, lit_cArg0 w 3 (-2000000000000) 0 _ (fits_small _ _ _ _ (by omega) (by omega) (by omega) (by decide)), Nat.le_refl _⟩, Bel.alloc (Bel.refl _) _⟩
          · have hz : Hid (R = some (-(m : Int), s.toList.drop (f + D.length))) := Lib.hid (by
              rw [HR.out, ho]
              rw [hT.out, if_neg h18]
              simp [hne])
            have j18 : ¬ 18 < (j : Int) - ((i : Int) + 1) := by have := hjk.out; omega
            have hix : Hid (ixR s.size R = (j : Int)) := Lib.hid (by
              rw [hz.out]
              have := hjk.out
              have := hF.out
              simp only [ixR, List.length_drop, toL_len]
              omega)
            have hcs : Hid (intC R = [⟨3, -(m : Int), [], 0⟩]) := Lib.hid (by rw [hz.out]; rfl)
            clear hz hT hmv hjk ho hne
            rcases hex with rfl | ⟨h, x⟩ | ⟨h, x⟩
            all_goals
              go_wp2
              go_ret2
              exact ⟨by rw [hix.out, hcs.out]; exact ⟨_, 1, 1, rfl, lit_cArg0 w 3 (-(m : Int)) 0 _ (fits_small _ _ _ _ (by omega) (by omega) (by omega) (by decide)), Nat.le_refl _⟩, Bel.alloc (Bel.refl _) _⟩
end Val
end Go.Proofs.YtonlcjackbhnmaaDoor
