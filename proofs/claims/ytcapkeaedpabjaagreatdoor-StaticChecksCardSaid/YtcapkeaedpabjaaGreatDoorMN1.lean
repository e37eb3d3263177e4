/-
  Layer 8, texts merged: IdnL, IdnA, IdnC, IdnD, IdnE, IdnM, IdnN, IdnO. For every argument within the bounds that each theorem names.
-/
import Derived.Lib.SlicesCompact
import Derived.Test.YtcapkeaedpabjaaGreatDoorMA1
import Derived.Test.YtcapkeaedpabjaaGreatDoorMB1
import Derived.Laws.RangeAny
import Derived.Laws.RangeString
import Derived.Deep.LoopGhost
import Derived.Lib.Strings
import Derived.SliceStrings
import Derived.Laws.DeepStrings4
import Derived.Test.YtcapkeaedpabjaaGreatDoorShelf
import Derived.Deep.DeepCutAuto
import Derived.Sort.OwnSorted
import Derived.Lib.OwnBridge
import Derived.Laws.OwnMore

/-
 Plain: the strings of a list in ascending order, each once. No program.
-/
namespace Go.Proofs.YtcapkeaedpabjaaGreatDoor
namespace Idn

abbrev Txt := List UInt8
def asc (D : List Txt) : Prop := D.Pairwise (· < ·)
theorem tlt_irrefl (x : Txt) : ¬ x < x := List.lt_irrefl x
theorem tlt_trans {x y z : Txt} (h : x < y) (k : y < z) : x < z := List.lt_trans h k
theorem tlt_conn {x y : Txt} (h : ¬ x < y) (k : ¬ x = y) : y < x := by
 rcases Classical.em (y < x) with g | g
 ·exact g
 ·exact absurd (List.le_antisymm (List.not_lt.1 g) (List.not_lt.1 h)) k
/-- Where a string stands in an ascending list, or would stand. -/
def pl (x : Txt) : List Txt → Nat
 | [] => 0
 | d :: r => if d < x then pl x r + 1 else 0
def ins (x : Txt) : List Txt → List Txt
 | [] => [x]
 | d :: r => if d < x then d :: ins x r else if d = x then d :: r else x :: d :: r
def srt (l : List Txt) : List Txt := l.foldl (fun D x => ins x D) []
theorem pl_le (x : Txt) : ∀ D, pl x D ≤ D.length
 | [] => Nat.le_refl _
 | d :: r => by
  have := pl_le x r
  unfold pl
  split
  ·simp; omega
  ·exact Nat.zero_le _
theorem pl_before (x : Txt) : ∀ (D : List Txt) (j : Nat) (h : j < D.length), j < pl x D → D[j] < x
 | [], j, h, _ => absurd h (Nat.not_lt_zero _)
 | d :: r, j, h, k => by
  unfold pl at k
  split at k
  ·rename_i hd
   cases j with
   | zero => exact hd
   | succ j => exact pl_before x r j (by simpa using h) (by omega)
  ·omega
theorem pl_at (x : Txt) : ∀ (D : List Txt) (h : pl x D < D.length), ¬ D[pl x D] < x
 | [], h => absurd h (Nat.not_lt_zero _)
 | d :: r, h => by
  by_cases hd : d < x
  ·have e : pl x (d :: r) = pl x r + 1 := by rw [pl, if_pos hd]
   simp only [e] at h ⊢
   exact pl_at x r (by simpa using h)
  ·have e : pl x (d :: r) = 0 := by rw [pl, if_neg hd]
   simp only [e]
   exact hd
/-- The place is the first one at which the list isn't below the string. -/
theorem pl_eq {x : Txt} {D : List Txt} {k : Nat} (hk : k ≤ D.length) (hb : ∀ j (h : j < D.length), j < k → D[j] < x) (ha : ∀ h : k < D.length, ¬ D[k] < x) : pl x D = k := by
 rcases Nat.lt_trichotomy (pl x D) k with h | h | h
 ·exact absurd (hb _ (by omega) h) (pl_at x D (by omega))
 ·exact h
 ·have := pl_le x D
  exact absurd (pl_before x D k (by omega) h) (ha (by omega))
theorem ins_eq (x : Txt) : ∀ D, ins x D = if pl x D = D.length ∨ D[pl x D]? ≠ some x then D.take (pl x D) ++ x :: D.drop (pl x D) else D
 | [] => rfl
 | d :: r => by
  have ih := ins_eq x r
  unfold ins pl
  by_cases hd : d < x
  ·simp only [if_pos hd]
   rw [ih]
   simp only [List.length_cons, Nat.add_right_cancel_iff, List.getElem?_cons_succ, List.take_succ_cons, List.drop_succ_cons]
   split
   ·rfl
   ·rfl
  ·simp only [if_neg hd]
   by_cases he : d = x
   ·subst he
    simp
   ·simp [he]
theorem mem_ins (x y : Txt) : ∀ D, y ∈ ins x D ↔ y = x ∨ y ∈ D
 | [] => by simp [ins]
 | d :: r => by
  have ih := mem_ins x y r
  unfold ins
  split
  ·simp only [List.mem_cons, ih]
   grind
  ·split
   ·rename_i h
    subst h
    simp
   ·simp
theorem asc_ins (x : Txt) : ∀ {D}, asc D → asc (ins x D)
 | [], _ => List.pairwise_singleton ..
 | d :: r, h => by
  have ih := asc_ins x (List.pairwise_cons.1 h).2
  have h1 := (List.pairwise_cons.1 h).1
  unfold ins
  split
  ·rename_i hd
   refine List.pairwise_cons.2 ⟨fun y hy => ?_, ih⟩
   rcases (mem_ins x y r).1 hy with rfl | k
   ·exact hd
   ·exact h1 y k
  ·split
   ·exact h
   ·rename_i hd he
    have hxd := tlt_conn hd he
    refine List.pairwise_cons.2 ⟨fun y hy => ?_, h⟩
    rcases List.mem_cons.1 hy with rfl | k
    ·exact hxd
    ·exact tlt_trans hxd (h1 y k)
theorem srt_snoc (l : List Txt) (k : Nat) (h : k < l.length) : srt (l.take (k + 1)) = ins l[k] (srt (l.take k)) := by
 unfold srt
 rw [List.take_succ_eq_append_getElem h, List.foldl_append]
 rfl
theorem fold_asc : ∀ (l : List Txt) {D}, asc D → asc (l.foldl (fun D x => ins x D) D)
 | [], _, h => h
 | x :: r, _, h => fold_asc r (asc_ins x h)
theorem fold_mem (y : Txt) : ∀ (l : List Txt) (D : List Txt), y ∈ l.foldl (fun D x => ins x D) D ↔ y ∈ l ∨ y ∈ D
 | [], D => by simp
 | x :: r, D => by
  rw [List.foldl_cons, fold_mem y r, mem_ins]
  simp only [List.mem_cons]
  grind
theorem srt_asc (l : List Txt) : asc (srt l) := fold_asc l List.Pairwise.nil
theorem srt_mem (l : List Txt) (y : Txt) : y ∈ srt l ↔ y ∈ l := by
 unfold srt
 rw [fold_mem]
 simp
theorem ins_len (x : Txt) : ∀ D, (ins x D).length ≤ D.length + 1
 | [] => Nat.le_refl _
 | d :: r => by
  have := ins_len x r
  unfold ins
  split
  ·simp; omega
  ·split
   ·simp
   ·simp
theorem srt_len (l : List Txt) : ∀ k, k ≤ l.length → (srt (l.take k)).length ≤ k
 | 0, _ => by simp [srt]
 | k + 1, h => by
  rw [srt_snoc l k (by omega)]
  have := ins_len l[k] (srt (l.take k))
  have := srt_len l k (by omega)
  omega
/-- Two ascending lists of the same strings are one. -/
theorem asc_ext : ∀ {A B : List Txt}, asc A → asc B → (∀ x, x ∈ A ↔ x ∈ B) → A = B
 | [], [], _, _, _ => rfl
 | [], b :: B, _, _, h => absurd ((h b).2 (List.mem_cons_self ..)) (by simp)
 | a :: A, [], _, _, h => absurd ((h a).1 (List.mem_cons_self ..)) (by simp)
 | a :: A, b :: B, hA, hB, h => by
  have a1 := (List.pairwise_cons.1 hA).1
  have b1 := (List.pairwise_cons.1 hB).1
  have e : a = b := by
   rcases List.mem_cons.1 ((h a).1 (List.mem_cons_self ..)) with e | k
   ·exact e
   ·rcases List.mem_cons.1 ((h b).2 (List.mem_cons_self ..)) with e | g
    ·exact e.symm
    ·exact absurd (tlt_trans (a1 b g) (b1 a k)) (tlt_irrefl _)
  subst e
  rw [asc_ext (List.pairwise_cons.1 hA).2 (List.pairwise_cons.1 hB).2 fun x => ⟨fun k => ?_, fun k => ?_⟩]
  ·rcases List.mem_cons.1 ((h x).1 (List.mem_cons_of_mem _ k)) with e | g
   ·subst e; exact absurd (a1 x k) (tlt_irrefl _)
   ·exact g
  ·rcases List.mem_cons.1 ((h x).2 (List.mem_cons_of_mem _ k)) with e | g
   ·subst e; exact absurd (b1 x k) (tlt_irrefl _)
   ·exact g
/-- Where a list ascends, with or without equal neighbours, what is left of it ascends and has all. -/
theorem compact_inv (zs : List Txt) (hs : zs.Pairwise (fun x y => ¬ y < x)) : ∀ m, m ≤ zs.length → asc (Lib.compactUpTo zs.toArray m) ∧ ∀ x, x ∈ Lib.compactUpTo zs.toArray m ↔ x ∈ zs.take m
 | 0, _ => by simp [Lib.compactUpTo, asc]
 | m + 1, h => by
  obtain ⟨h1, h2⟩ := compact_inv zs hs m (by omega)
  rw [Lib.compactUpTo_succ]
  have hm : m < zs.length := by omega
  have e : zs.toArray[m]! = zs[m] := by simp [hm]
  have hle : ∀ x ∈ zs.take m, ¬ zs[m] < x := fun x hx => by
   obtain ⟨j, hj, rfl⟩ := List.getElem_of_mem hx
   rw [List.getElem_take]
   rw [List.length_take] at hj
   exact List.pairwise_iff_getElem.1 hs j m (by omega) hm (by omega)
  cases hk : Lib.keeps zs.toArray m with
  | true =>
   rw [if_pos rfl, e]
   constructor
   ·refine List.pairwise_append.2 ⟨h1, List.pairwise_singleton .., fun a ha b hb => ?_⟩
    rw [List.mem_singleton] at hb
    subst hb
    have ha' := (h2 a).1 ha
    refine tlt_conn (hle a ha') (fun he => ?_)
    simp only [Lib.keeps, decide_eq_true_eq, e] at hk
    obtain ⟨j, hj, rfl⟩ := List.getElem_of_mem ha'
    rw [List.length_take] at hj
    rw [List.getElem_take] at he
    rcases hk with hk | hk
    ·omega
    ·have e2 : zs.toArray[m - 1]! = zs[m - 1] := by simp [show m - 1 < zs.length by omega]
     rw [e2] at hk
     have hmid : ¬ zs[m - 1] < zs[j] := by
      rcases Nat.lt_or_ge j (m - 1) with g | g
      ·exact List.pairwise_iff_getElem.1 hs j (m - 1) (by omega) (by omega) g
      ·obtain rfl : j = m - 1 := by omega
       exact tlt_irrefl _
     have hup := List.pairwise_iff_getElem.1 hs (m - 1) m (by omega) hm (by omega)
     have := tlt_conn hup hk
     rw [he] at this
     exact hmid this
   ·intro x
    rw [List.mem_append, h2, List.take_succ_eq_append_getElem hm, List.mem_append]
  | false =>
   rw [if_neg (by decide), List.append_nil]
   refine ⟨h1, fun x => ?_⟩
   rw [h2, List.take_succ_eq_append_getElem hm, List.mem_append, List.mem_singleton]
   constructor
   ·exact Or.inl
   ·rintro (g | rfl)
    ·exact g
    ·simp only [Lib.keeps, decide_eq_false_iff_not, not_or, Decidable.not_not, e] at hk
     have e2 : zs.toArray[m - 1]! = zs[m - 1] := by simp [show m - 1 < zs.length by omega]
     rw [hk.2, e2]
     exact List.mem_take_iff_getElem.2 ⟨m - 1, by omega, rfl⟩
/-- What the library's sort and Compact leave. -/
theorem sort_compact (ss : List Txt) : Lib.compact (ss.mergeSort fun x y => decide (x ≤ y)) = srt ss := by
 have hp : (ss.mergeSort fun x y => decide (x ≤ y)).Pairwise (fun x y => ¬ y < x) := by
  have := List.pairwise_mergeSort (le := fun (x y : Txt) => decide (x ≤ y)) (fun a b c h1 h2 => by
   simp only [decide_eq_true_eq] at *
   exact List.le_trans h1 h2) (fun a b => by
   simp only [Bool.or_eq_true, decide_eq_true_eq]
   exact List.le_total a b) ss
  exact this.imp fun h => List.not_lt.2 (of_decide_eq_true h)
 obtain ⟨h1, h2⟩ := compact_inv _ hp _ (Nat.le_refl _)
 refine asc_ext h1 (srt_asc ss) fun x => ?_
 rw [srt_mem]
 have := h2 x
 rw [List.take_length] at this
 exact this.trans List.mem_mergeSort
end Idn
end Go.Proofs.YtcapkeaedpabjaaGreatDoor

/-
 Plain: names, identifiers, patterns, references. No program.
-/
namespace Go.Proofs.YtcapkeaedpabjaaGreatDoor
namespace Idn

def small (c : UInt8) : Bool := decide (97 ≤ c.toNat) && decide (c.toNat ≤ 122)
def big (c : UInt8) : Bool := decide (65 ≤ c.toNat) && decide (c.toNat ≤ 90)
def digit (c : UInt8) : Bool := decide (48 ≤ c.toNat) && decide (c.toNat ≤ 57)
def tailB (c : UInt8) : Bool := small c || digit c || c == 45 || c == 95
def partB (c : UInt8) : Bool := small c || big c || digit c || c == 45 || c == 95 || c == 46 || c == 58 || c == 47
def nameB : List UInt8 → Bool
 | [] => false
 | c :: r => decide (r.length < 24) && small c && r.all tailB
/-- Where a byte first occurs, or the length. -/
def firstAt (c : UInt8) : List UInt8 → Nat
 | [] => 0
 | x :: r => if x = c then 0 else firstAt c r + 1
theorem firstAt_le (c : UInt8) : ∀ l : List UInt8, firstAt c l ≤ l.length
 | [] => Nat.le_refl _
 | x :: r => by
  have := firstAt_le c r
  unfold firstAt
  split
  ·exact Nat.zero_le _
  ·simp; omega
end Idn
end Go.Proofs.YtcapkeaedpabjaaGreatDoor

/-
 Layer 5: the characters of names and identifiers, in the code and in the reference.
-/
namespace Go.Proofs.YtcapkeaedpabjaaGreatDoor
open Go.RowKit
namespace Idn

def digR (r : Int) : Bool := decide (48 ≤ r) && decide (r ≤ 57)
end Idn
end Go.Proofs.YtcapkeaedpabjaaGreatDoor

/-
 Layer 5, the code: Name and ID.
-/
namespace Go.Proofs.YtcapkeaedpabjaaGreatDoor
open Go.RowKit
namespace Idn

theorem dig_byte (c : UInt8) : digR (c.toNat : Int) = digit c := by
 unfold digR digit
 rw [Bool.eq_iff_iff]
 simp
 omega
theorem byte_is (c : UInt8) (n : Nat) (hn : n < 256) : ((c.toNat : Int) == (n : Int)) = (c == UInt8.ofNat n) := by
 rw [Bool.eq_iff_iff, beq_iff_eq, beq_iff_eq]
 constructor
 ·intro h
  apply UInt8.toNat_inj.1
  rw [UInt8.toNat_ofNat']
  omega
 ·rintro rfl
  rw [UInt8.toNat_ofNat']
  omega
theorem toL (s : ByteArray) : s.toList = s.data.toList := Go.ByteArray.toList_eq s
theorem toL_len (s : ByteArray) : s.toList.length = s.size := by rw [toL]; simp
theorem toL_get (s : ByteArray) (k : Nat) (h : k < s.size) : s.toList[k]'(by rw [toL_len]; exact h) = s[k] := by simp only [toL]; rfl
theorem empty_str {s : ByteArray} (h : s.size = 0) : s = ⟨#[]⟩ := by
 cases s with
 | mk d =>
  have : d.size = 0 := h
  rw [Array.eq_empty_of_size_eq_zero this]
end Idn
end Go.Proofs.YtcapkeaedpabjaaGreatDoor

/-
 Layer 5, the reference: Name, ID, Pattern, find, open, begins.
-/
namespace Go.Proofs.YtcapkeaedpabjaaGreatDoor
open Go.RowKit
namespace Idn

theorem last_get (s : ByteArray) (h : 0 < s.size) : s.toList.getLast? = some (s[s.size - 1]'(by omega)) := by
 have hl := toL_len s
 rw [List.getLast?_eq_getElem?, hl, List.getElem?_eq_getElem (by omega), toL_get s (s.size - 1) (by omega)]
/-- The byte at a place. -/
theorem idx_str (s : ByteArray) (k : IntKind) (z : Int) (i : Nat) (hz : z = (i : Int)) (h : i < s.size) (w : World) : (Instr.index 9 (.string s) (.int k z)).run Tryz.prog w = .ok (.int .u8 (s[i].toNat : Int)) w := by
 subst hz
 rw [run_index_string w 9 s k _ Tryz.underlying9, dif_pos ⟨by omega, by omega⟩]
 have e : ((i : Int)).toNat = i := by omega
 simp only [e]
/-- Pieces of a string: the first bytes, all from a place on, what lies between. -/
theorem cutS (s : ByteArray) (i j : Nat) (zi zj : Int) (hi : zi = (i : Int)) (hj : zj = (j : Int)) (h1 : i ≤ j) (h2 : j ≤ s.size) (w : World) :
  (Instr.slice 9 (.string s) (some (.int .i64 zi)) (some (.int .i64 zj)) none).run Tryz.prog w = .ok (.string ⟨((s.toList.drop i).take (j - i)).toArray⟩) w := by
 subst hi hj
 rw [run_slice_string_if w 9 s .i64 .i64 (i : Int) (j : Int) Tryz.underlying9, if_pos ⟨by omega, by omega⟩, if_pos ⟨by omega, by omega⟩, Lib.extract_eq, toL]
 simp only [Int.toNat_natCast]
end Idn
end Go.Proofs.YtcapkeaedpabjaaGreatDoor

/-
 Layer 5: Has, Same and Sorted of the code and of the reference, but for the reference's Sorted.
-/
namespace Go.Proofs.YtcapkeaedpabjaaGreatDoor
open Go.RowKit Go.ChangeShapes Go.WideShapes
namespace Idn

/-- Where a slice that is not empty lies. -/
theorem sl_addr {w : World} {o : Option Addr} {n : Nat} {xs : List ByteArray} (h : SlArg w o n xs) (hn : 0 < n) : ∃ b off, o = some ⟨b, off, none⟩ ∧ ∀ j, j < xs.length → w.cell? ⟨b, off + j, none⟩ = some (.string (xs.getD j ByteArray.empty)) := by
 have hl := h.1
 obtain ⟨⟨b, off, sp⟩, rfl, hc⟩ := h.2 0 (by omega)
 have hs : sp = none := by
  cases sp with
  | none => rfl
  | some x =>
   unfold World.cell? Addr.add at hc
   rw [if_pos rfl] at hc
   split at hc
   ·simp at hc
   ·cases hc
 subst hs
 refine ⟨b, off, rfl, fun j hj => ?_⟩
 obtain ⟨a, e, c⟩ := h.2 j hj
 obtain rfl := Option.some.inj e
 rw [Lib.add_plain] at c
 rw [c, List.getD_eq_getElem?_getD, List.getElem?_eq_getElem hj]
 rfl
/-- Is a string one of a list? -/
def hasB (xs : List ByteArray) (x : ByteArray) : Bool := Lib.containsS xs x
theorem has_yes {xs : List ByteArray} {x : ByteArray} (h : x ∈ xs) : hasB xs x = true := (Lib.containsS_iff xs x).2 h
theorem has_no {xs : List ByteArray} {x : ByteArray} (h : x ∉ xs) : hasB xs x = false := by
 cases hb : hasB xs x with
 | false => rfl
 | true => exact absurd ((Lib.containsS_iff xs x).1 hb) h
theorem eq_of_lists {x y : ByteArray} (h : (x.toList == y.toList) = true) : x = y := by
 rw [beq_iff_eq, toL, toL] at h
 exact ByteArray.ext (Array.toList_inj.1 h)
set_option maxHeartbeats 1000000 in
theorem rhas_any (o : Option Addr) (n c : Nat) (xs : List ByteArray) (x : ByteArray) (hn : n ≤ 4611686018427387904) (w : World) (hA : SlArg w o n xs) :
  Calls Tryz.prog 59 #[.slice o n c, .string x] w fun e w' => e = .returned (.bool (hasB xs x)) ∧ w = w' := by
 have hlen := hA.1
 have HA := Lib.hid hA
 clear hA
 go_enter Tryz.func59, Tryz.ntmps59
 go_wp2
 go_loop [5] (fun i => ∃ k : Nat, i = .int .i64 (k : Int) ∧ k ≤ n ∧ Hid (x ∉ xs.take k)) (fun i => n - (intOf i).toNat)
 case atStart => exact ⟨0, rfl, Nat.zero_le _, Lib.hid (by simp)⟩
 case round =>
  obtain ⟨k, rfl, hk, hr⟩ := hrel
  by_cases hlt : k < n
  ·have hkx : k < xs.length := by omega
   obtain ⟨p, rfl, hc⟩ := HA.out.2 k hkx
   have hmem := List.getElem_mem hkx
   have htk := List.take_succ_eq_append_getElem hkx
   obtain ⟨y, hye⟩ : ∃ y, xs[k] = y := ⟨_, rfl⟩
   rw [hye] at hc hmem htk
   obtain ⟨b, hb⟩ : ∃ b, (y.toList == x.toList) = b := ⟨_, rfl⟩
   cases b with
   | true =>
    obtain rfl := eq_of_lists hb
    have hz := Lib.hid (has_yes hmem)
    clear hmem htk hye hr
    go_wp2
    go_ret
    exact ⟨by rw [hz.out]; rfl, rfl⟩
   | false =>
    have hne : x ≠ y := fun h => by subst h; simp at hb
    have hn2 : Hid (x ∉ xs.take (k + 1)) := Lib.hid (by
     rw [htk]
     intro hm
     rcases List.mem_append.1 hm with g | g
     ·exact hr.out g
     ·exact hne (List.mem_singleton.1 g))
    clear hmem htk hye hr hne
    go_wp2
    go_round
    case rel => exact ⟨k + 1, by go_num, by omega, hn2⟩
    case measure => simp [intOf]; omega
  ·obtain rfl : k = n := by omega
   have hz := hr.out
   rw [List.take_of_length_le (by omega)] at hz
   have hz2 := Lib.hid (has_no hz)
   clear hz hr
   go_wp2
   go_ret
   exact ⟨by rw [hz2.out]; rfl, rfl⟩
end Idn
end Go.Proofs.YtcapkeaedpabjaaGreatDoor

/-
 Layer 5, the code: Sorted.
-/
namespace Go.Proofs.YtcapkeaedpabjaaGreatDoor
open Go.RowKit Go.ChangeShapes Go.WideShapes Go.Sort
namespace Idn

/-- A slice of the call's own that holds these texts. -/
def OutS (w w' : World) (L : List Txt) (v : Value) : Prop := ∃ (o : Option Addr) (k c : Nat) (D : List ByteArray), v = .slice o k c ∧ D.map ByteArray.toList = L ∧ w'.ownsRow w.heap.size 9 1 (.slice o k c) k (encS D)
def outB (L : List Txt) : List ByteArray := L.map fun l => ⟨l.toArray⟩
theorem outB_enc (L : List Txt) : encS (outB L) = L.map encStr := by
 unfold encS outB
 rw [List.map_map]
 rfl
theorem outB_back (L : List Txt) : (outB L).map ByteArray.toList = L := by
 unfold outB
 rw [List.map_map]
 conv => rhs; rw [← List.map_id L]
 apply List.map_congr_left
 intro l _
 exact tl' l
where tl' (l : Txt) : (ByteArray.toList ∘ fun l => ⟨l.toArray⟩) l = id l := Go.ByteArray.toList_mk _
def SortedOut (w : World) (ss : List Txt) (e : Ending) (w' : World) : Prop := (∃ v, e = .returned v ∧ OutS w w' (srt ss) v) ∧ Bel w w'
theorem left_of {w w1 : World} {g cap n nn q : Nat} {os : Array Obj} {ss : List Txt} (hown : w1.ownsRow w.heap.size 9 1 (.slice (some ⟨g, 0, none⟩) n cap) n (ss.map encStr)) (hbel : Below w.heap.size w w1) (hbg : w.heap.size ≤ g) (hlen : ss.length = n) :
  SortedOut w ss (.returned (.slice (some ⟨g, 0, none⟩) (Lib.compact (ss.mergeSort fun x y => decide (x ≤ y))).length cap))
   (putRow encStr (Sort.ahead (grow (putRow encStr (Sort.ahead w1 nn) g 0 (ss.mergeSort fun x y => decide (x ≤ y)).toArray) os) q) g 0 (Lib.compact (ss.mergeSort fun x y => decide (x ≤ y)) ++ List.replicate (n - (Lib.compact (ss.mergeSort fun x y => decide (x ≤ y))).length) []).toArray) := by
 have hl2 : (ss.mergeSort fun x y => decide (x ≤ y)).length = ss.length := List.length_mergeSort ss
 have hle : (Lib.compact (ss.mergeSort fun x y => decide (x ≤ y))).length ≤ (ss.mergeSort fun x y => decide (x ≤ y)).length := by
  unfold Lib.compact Lib.compactUpTo
  rw [List.length_map]
  have := List.length_filter_le (Lib.keeps (ss.mergeSort fun x y => decide (x ≤ y)).toArray) (List.range (ss.mergeSort fun x y => decide (x ≤ y)).length)
  rw [List.length_range] at this
  exact this
 subst hlen
 rcases hown.2 with ⟨h0, _⟩ | ⟨g', cap', cur, hv, hbase, hb, h1, h2, h3, h4⟩
 ·cases h0
 cases hv
 have hs := ownsRow_sorted (n := nn) (os := os) (ts := ss.mergeSort fun x y => decide (x ≤ y)) hl2 hbase hb h1 h2 h3
 have hc := Lib.ownsRow_putRow (q := q) (k := (Lib.compact (ss.mergeSort fun x y => decide (x ≤ y))).length) (ys := Lib.compact (ss.mergeSort fun x y => decide (x ≤ y)) ++ List.replicate (ss.length - (Lib.compact (ss.mergeSort fun x y => decide (x ≤ y))).length) []) hs (by simp; omega) (by omega)
 rw [List.take_left] at hc
 refine ⟨⟨_, rfl, _, _, _, outB (srt ss), rfl, outB_back _, ?_⟩, Lib.below_putRow (hbel.grown (grownBy_sorted _) hbel.size (fun j hj => by cases hj; exact hbase)) hbg⟩
 rw [outB_enc, ← sort_compact]
 exact hc
set_option maxHeartbeats 2000000 in
set_option maxRecDepth 100000 in
theorem sorted_tail (n : Nat) (arg : Value) (ss : List Txt) (w : World) (hn : n ≤ 1000000)
  (hclone : Calls Tryz.prog 103 #[arg] w fun e w' => ∃ v', e = .returned v' ∧ w'.ownsRow w.heap.size 9 1 v' n (ss.map encStr) ∧ v' ≠ .slice none 0 0 ∧ Below w.heap.size w w') :
  Calls Tryz.prog 58 #[arg] w (SortedOut w ss) := by
 go_enter Tryz.func58, Tryz.ntmps58
 go_wp2_with fail
 refine hclone.mono ?_
 rintro e w1 ⟨v1, rfl, hown, hnn, hbel⟩
 obtain ⟨g, cap, rfl, hbg, hgl, hncap, hcm, hlen, hH⟩ := Lib.holds_of_ownsRow hown hnn
 have hsort := Tryz.slices_Sort_string g 0 cap ss w1 hH hgl (by omega)
 rw [hlen] at hsort
 have X := Lib.hid (And.intro hown (And.intro hbel (And.intro hbg (And.intro hgl (And.intro hncap (And.intro hcm (And.intro hlen hH)))))))
 clear hown hbel hH hnn hclone hlen hncap hcm hgl hbg
 go_wp2_with fail
 refine hsort.mono ?_
 rintro e w2 ⟨rfl, nn, os, rfl⟩
 have hl2 : (ss.mergeSort fun x y => decide (x ≤ y)).length = n := by rw [List.length_mergeSort]; exact X.out.2.2.2.2.2.2.1
 have hH2 : Holds encStr (grow (putRow encStr (Sort.ahead w1 nn) g 0 (ss.mergeSort fun x y => decide (x ≤ y)).toArray) os) g 0 (ss.mergeSort fun x y => decide (x ≤ y)).toArray :=
  holds_grow encStr _ os g 0 _ (by simpa [putRow, mapBlock, Sort.ahead] using X.out.2.2.2.1) (holds_putRow encStr _ g 0 _ _ (holds_ahead encStr w1 nn g 0 _ X.out.2.2.2.2.2.2.2) (by simp))
 have hcomp := Tryz.slices_Compact_string g 0 cap (ss.mergeSort fun x y => decide (x ≤ y)) _ hH2 (by omega) (by have := X.out.2.2.2.2.1; omega)
 rw [hl2] at hcomp
 have L := fun q => left_of (w := w) (nn := nn) (q := q) (os := os) X.out.1 X.out.2.1 X.out.2.2.1 X.out.2.2.2.2.2.2.1
 have HL := Lib.hid L
 clear hH2 hsort hl2 L
 generalize hM : (Lib.compact (ss.mergeSort fun x y => decide (x ≤ y))).length = M at *
 clear hM
 go_wp2_with fail
 refine hcomp.mono ?_
 rintro e w3 ⟨rfl, q, rfl⟩
 go_wp2_with fail
 go_ret
 exact HL.out q
theorem sorted_nil (n c : Nat) (w : World) :
  Calls Tryz.prog 58 #[.slice none n c] w (SortedOut w []) := by
 have H1 := Lib.hid (Tryz.slices_Clone_string_nil n c w)
 have H2 := Lib.hid (Tryz.slices_Sort_string_none none 0 w)
 have H3 := Lib.hid (Tryz.slices_Compact_string_empty none 0 w)
 go_enter Tryz.func58, Tryz.ntmps58
 go_wp2_with fail
 refine H1.out.mono ?_
 rintro e w1 ⟨rfl, rfl⟩
 go_wp2_with fail
 refine H2.out.mono ?_
 rintro e w1 ⟨rfl, rfl⟩
 go_wp2_with fail
 refine H3.out.mono ?_
 rintro e w1 ⟨rfl, rfl⟩
 go_wp2_with fail
 go_ret
 exact ⟨⟨_, rfl, none, 0, 0, [], rfl, rfl, World.ownsRow_nil _ _ _ _⟩, Bel.refl _⟩
/-- What Sorted hands back. -/
theorem sorted_any (o : Option Addr) (n c : Nat) (xs : List ByteArray) (hn : n ≤ 1000000) (w : World) (hA : SlArg w o n xs) :
  Calls Tryz.prog 58 #[.slice o n c] w (SortedOut w (xs.map ByteArray.toList)) := by
 have hl := hA.1
 by_cases h0 : n = 0
 ·subst h0
  obtain rfl : xs = [] := List.eq_nil_of_length_eq_zero hl
  cases o with
  | none => exact sorted_nil 0 c w
  | some a => exact sorted_tail 0 _ [] w (by omega) (Tryz.slices_Clone_string_zero a c w)
 ·obtain ⟨b, off, rfl, hc⟩ := sl_addr hA (by omega)
  refine sorted_tail n _ _ w hn ?_
  have e : (xs.map ByteArray.toList).map encStr = (xs.take n).map Value.string := by
   rw [List.take_of_length_le (by omega), List.map_map]
   apply List.map_congr_left
   intro x _
   simp [encStr, toL]
  rw [e]
  exact Tryz.slices_Clone_string b off n c xs w (by omega) (by omega) hc
end Idn
end Go.Proofs.YtcapkeaedpabjaaGreatDoor

/-
 Layer 5, the reference: Sorted.
-/
namespace Go.Proofs.YtcapkeaedpabjaaGreatDoor
open Go.RowKit Go.ChangeShapes Go.WideShapes
namespace Idn

theorem sizeOf_str (w : World) : (sizeOf (Tryz.prog.elem 44)).run Tryz.prog w = .ok 1 w := by kernel_rfl
theorem und_elem : Tryz.prog.underlying 44 = some (.slice (Tryz.prog.elem 44)) := by kernel_rfl
/-- out[:at]. -/
theorem cut_lo (b off n c at_ : Nat) (h : at_ ≤ c) (W : World) : (Instr.slice 44 (.slice (some ⟨b, off, none⟩) n c) none (some (.int .i64 (at_ : Int))) none).run Tryz.prog W = .ok (.slice (some ⟨b, off, none⟩) at_ c) W := by
 rw [run_slice_h W 44 _ n c und_elem .i64 (at_ : Int) (by omega) (by omega), sizeOf_str]
 simp only [Result.andThen, sliced, Int.toNat_natCast, Nat.zero_mul, Nat.sub_zero, Option.map_some, Addr.add_zero', ite_self]
/-- out[at:]. -/
theorem cut_hi (b off n c at_ : Nat) (h : at_ ≤ n) (hc : n ≤ c) : ∃ q : Addr, (∀ W : World, (Instr.slice 44 (.slice (some ⟨b, off, none⟩) n c) (some (.int .i64 (at_ : Int))) none none).run Tryz.prog W = .ok (.slice (some q) (n - at_) (c - at_)) W) ∧ (at_ < n → q = ⟨b, off + at_, none⟩) := by
 refine ⟨if c = at_ then ⟨b, off, none⟩ else ⟨b, off + at_, none⟩, fun W => ?_, fun h' => if_neg (by omega)⟩
 rw [run_slice_l W 44 _ n c und_elem .i64 (at_ : Int) (by omega) (by omega), sizeOf_str]
 simp only [Result.andThen, sliced, Int.toNat_natCast, Nat.mul_one, Option.map_some, Addr.add_lit]
 by_cases hh : c = at_
 ·simp [hh]
 ·simp [hh]
theorem own_base {w : World} {a b : Nat} {e : TypeId} {v : Value} {k : Nat} {xs : List Value} (h : w.ownsRow b e 1 v k xs) (hab : a ≤ b) : w.ownsRow a e 1 v k xs := by
 refine ⟨h.1, ?_⟩
 rcases h.2 with h2 | ⟨g, cap, cur, h1, h2, h3⟩
 ·exact Or.inl h2
 ·exact Or.inr ⟨g, cap, cur, h1, Nat.le_trans hab h2, h3⟩
/-- A slice of one's own that is not nil: where it lies. -/
theorem own_at {w : World} {base : Nat} {e : TypeId} {o : Option Addr} {k c : Nat} {xs : List Value} (h : w.ownsRow base e 1 (.slice o k c) k xs) (ho : o ≠ none) : ∃ g, o = some ⟨g, 0, none⟩ ∧ k ≤ c := by
 rcases h.2 with ⟨h2, _⟩ | ⟨g, cap, cur, h1, h2, h3, h4, h5⟩
 ·cases h2; exact absurd rfl ho
 ·cases h1; exact ⟨g, rfl, h4⟩
theorem texts_get (D : List ByteArray) (j : Nat) (h : j < D.length) : (D.map ByteArray.toList)[j]'(by simpa using h) = D[j].toList := by simp
theorem enc_cells {w : World} {q : Addr} {E : List ByteArray} (h : ∀ j (h : j < E.length), w.cell? (q.add j) = some (.string E[j])) : ∀ j u, (encS E)[j]? = some u → w.cell? (q.add j) = some u := fun j u hu => by
 have hj : j < E.length := by
  have := (List.getElem?_eq_some_iff.1 hu).1
  rw [encS_len] at this
  exact this
 rw [h j hj]
 simp only [encS, List.getElem?_map, List.getElem?_eq_getElem hj, Option.map_some, Option.some.injEq] at hu
 rw [hu]
set_option maxHeartbeats 4000000 in
theorem rsorted_any (o : Option Addr) (n c : Nat) (xs : List ByteArray) (hn : n ≤ 100000) (w : World) (hA : SlArg w o n xs) :
  Calls Tryz.prog 60 #[.slice o n c] w fun e w' => (∃ v, e = .returned v ∧ OutS w w' (srt (xs.map ByteArray.toList)) v) ∧ Bel w w' := by
 have hlen := hA.1
 have HA := Lib.hid hA
 clear hA
 obtain ⟨i0, hi, hz0, hz1, hz2⟩ := info_parts info_str
 go_enter Tryz.func60, Tryz.ntmps60
 go_wp2
 go_loopw [3, 4] (fun v i wr => ∃ (k m c' g : Nat) (D : List ByteArray), v = .slice (some ⟨g, 0, none⟩) m c' ∧ i = .int .i64 (k : Int) ∧ k ≤ n ∧ m ≤ k ∧ m ≤ c' ∧ Hid (D.map ByteArray.toList = srt ((xs.map ByteArray.toList).take k)) ∧
   Hid (wr.ownsRow w.heap.size 9 1 (.slice (some ⟨g, 0, none⟩) m c') m (encS D)) ∧ Hid (Bel w wr)) (fun _ i _ => n - (intOf i).toNat)
 case atStart => exact ⟨0, 0, 0, w.heap.size, [], rfl, rfl, Nat.zero_le _, Nat.le_refl _, Nat.le_refl _, Lib.hid rfl, Lib.hid (World.ownsRow_made w #[] 0 (Nat.le_refl _) (by decide) rfl), Lib.hid (Bel.alloc (Bel.refl _) _)⟩
 case round =>
  obtain ⟨k, m, c', g, D, rfl, rfl, hk, hm, hmc, hD, hown, hb⟩ := hrel
  rename World => W0
  by_cases hlt : k < n
  ·have hkx : k < xs.length := by omega
   obtain ⟨p, rfl, hc0⟩ := HA.out.2 k hkx
   obtain ⟨x, hxe⟩ : ∃ x, xs[k] = x := ⟨_, rfl⟩
   rw [hxe] at hc0
   have hC0 := Lib.hid hc0
   have hDl : D.length = m := by have := hown.out.1; rw [encS_len] at this; omega
   have hst := srt_snoc (xs.map ByteArray.toList) k (by simpa using hkx)
   rw [← hD.out, texts_get xs k hkx, hxe] at hst
   have hS := Lib.hid hst
   clear hst hxe hD hc0
   go_wp2
   go_loopw [5] (fun a wr => ∃ (j : Nat), a = .int .i64 (j : Int) ∧ j ≤ m ∧ Hid (∀ i (h : i < (D.map ByteArray.toList).length), i < j → (D.map ByteArray.toList)[i] < x.toList) ∧
    Hid (wr.ownsRow w.heap.size 9 1 (.slice (some ⟨g, 0, none⟩) m c') m (encS D)) ∧ Hid (Bel w wr)) (fun a _ => m - (intOf a).toNat)
   case atStart => exact ⟨0, rfl, Nat.zero_le _, Lib.hid (fun i h h2 => absurd h2 (Nat.not_lt_zero _)), hown, hb⟩
   case round =>
    obtain ⟨j, rfl, hj, hbel, hown1, hb1⟩ := hrel
    rename World => W1
    clear hown hb
    by_cases hjm : j < m
    ·have hjD : j < D.length := by omega
     have hcx := hb1.out.cell' hC0.out
     obtain ⟨a1, e1, hcy⟩ := (own_sarg hown1.out).2 j hjD
     obtain rfl := Option.some.inj e1
     obtain ⟨y, hye⟩ : ∃ y, D[j] = y := ⟨_, rfl⟩
     rw [hye, Addr.add_lit, Nat.zero_add] at hcy
     have i1 : (j : Int) < (m : Int) := by omega
     obtain ⟨b, hb0⟩ : ∃ b, Op.bytesLess y.toList x.toList = b := ⟨_, rfl⟩
     have hlt2 := Lib.hid ((bytesLess_eq _ _).symm.trans hb0)
     have Hye := Lib.hid hye
     clear hye
     cases b with
     | true =>
      have hbel2 : Hid (∀ i (h : i < (D.map ByteArray.toList).length), i < j + 1 → (D.map ByteArray.toList)[i] < x.toList) := Lib.hid (fun i h h2 => by
       rcases Nat.lt_or_ge i j with h3 | h3
       ·exact hbel.out i h h3
       ·obtain rfl : i = j := by omega
        rw [texts_get D i hjD, Hye.out]
        exact of_decide_eq_true hlt2.out)
      go_upto_region 6 with (fail)
      go_quiet (fail)
      go_wp2_with fail
      go_round
      case rel => exact ⟨j + 1, by go_num, by omega, hbel2, Lib.hid (own_on hown1.out ((Bel.refl _).drewN _)), Lib.hid (hb1.out.drewN _)⟩
      case measure => simp [intOf]; omega
     | false =>
      have hpl : pl x.toList (D.map ByteArray.toList) = j := pl_eq (by simp; omega) (fun i h h2 => hbel.out i h h2) (fun h => by
       rw [texts_get D j hjD, Hye.out]
       exact of_decide_eq_false hlt2.out)
      have Hpl := Lib.hid hpl
      clear hpl
      have Hown := hown1
      go_upto_region 6 with (fail)
      go_quiet (fail)
      clear hb0
      have hjm1 : ((j : Int) == (m : Int)) = false := by simp; omega
      obtain ⟨b2, hb2⟩ : ∃ b2, (y.toList == x.toList) = b2 := ⟨_, rfl⟩
      cases b2 with
      | true =>
       obtain rfl := eq_of_lists hb2
       have hins : Hid (D.map ByteArray.toList = srt ((xs.map ByteArray.toList).take (k + 1))) := Lib.hid (by
        rw [hS.out, ins_eq, if_neg]
        rw [Hpl.out]
        intro h
        rcases h with h | h
        ·rw [List.length_map] at h; omega
        ·apply h
         rw [List.getElem?_eq_getElem (by simpa using hjD), texts_get D j hjD, Hye.out])
       clear hS Hpl Hye hbel hlt2
       go_upto_region 8 with (fail)
       go_quiet (fail)
       go_wp2_with fail
       go_round
       case rel => exact ⟨k + 1, m, c', g, D, rfl, by go_num, by omega, by omega, hmc, hins, Lib.hid (own_on Hown.out ((Bel.refl _).drewN _)), Lib.hid (hb1.out.drewN _)⟩
       case measure => simp [intOf]; omega
      | false =>
       go_upto_region 8 with (fail)
       go_quiet (fail)
       have HINS : Hid (pl x.toList (D.map ByteArray.toList) = (D.map ByteArray.toList).length ∨ (D.map ByteArray.toList)[pl x.toList (D.map ByteArray.toList)]? ≠ some x.toList) := Lib.hid (by
        rw [Hpl.out]
        right
        rw [List.getElem?_eq_getElem (by simpa using hjD), texts_get D j hjD, Hye.out]
        intro h
        have := Option.some.inj h
        rw [this] at hb2
        simp at hb2)
       obtain ⟨D2, hD2⟩ : ∃ D2, D.take j ++ x :: D.drop j = D2 := ⟨_, rfl⟩
       have hins : Hid (D2.map ByteArray.toList = srt ((xs.map ByteArray.toList).take (k + 1))) := Lib.hid (by
        rw [hS.out, ins_eq, if_pos HINS.out, Hpl.out, ← hD2]
        simp)
       have hencs : Hid (encS (D.take j) ++ [Value.string x] ++ encS (D.drop j) = encS D2) := Lib.hid (by rw [← hD2]; simp [encS])
       have s1 := cut_lo g 0 m c' j (by omega)
       obtain ⟨q, s2, hq⟩ := cut_hi g 0 m c' j hj hmc
       have Hq := Lib.hid hq
       have cellD : Hid (∀ Y : World, Bel W1 Y → ∀ i, (h : i < D.length) → Y.cell? ⟨g, i, none⟩ = some (.string D[i])) := Lib.hid (fun Y hY i h => by
        obtain ⟨a1, e1, h1⟩ := ((own_sarg Hown.out).on hY).2 i h
        obtain rfl := Option.some.inj e1
        rw [Addr.add_lit, Nat.zero_add] at h1
        exact h1)
       have own0 : Hid (∀ N, ((W1.drewN N).alloc (.cells #[] 9)).ownsRow W1.heap.size 9 1 (.slice (some ⟨W1.heap.size, 0, none⟩) 0 0) 0 []) := Lib.hid (fun N => World.ownsRow_made (W1.drewN N) #[] 0 (Nat.le_refl _) (by decide) rfl)
       have q1 : Hid ((encS (D.take j)).length = j * 1) := Lib.hid (by rw [encS_len, List.length_take]; omega)
       have q2 : Hid (∀ N, ∀ i u, (encS (D.take j))[i]? = some u → ((W1.drewN N).alloc (.cells #[] 9)).cell? ((⟨g, 0, none⟩ : Addr).add i) = some u) := Lib.hid (fun N => enc_cells fun i h => by
        rw [List.length_take] at h
        rw [Addr.add_lit, Nat.zero_add, cellD.out _ (((Bel.refl W1).drewN N).alloc _) i (by omega), List.getElem_take])
       have q3 : Hid (0 + j ≤ maxLen) := Lib.hid (by unfold maxLen; omega)
       have q4 : Hid ((0 + j) * 16 ≤ 140737488355328) := Lib.hid (by omega)
       have q5 : Hid (∀ N, W1.heap.size ≤ ((W1.drewN N).alloc (.cells #[] 9)).heap.size) := Lib.hid (fun N => (((Bel.refl W1).drewN N).alloc _).size)
       clear hq hD2 hbel
       go_wp2_with (at_builtin; refine wpList_append_own _ rfl _ _ 44 rfl W1.heap.size 9 i0 (.string ByteArray.empty) 1 16 Tryz.underlying44 hi hz0 hz1 hz2 rfl (by decide) _ _ _ rfl (own0.out _) ⟨g, 0, none⟩ j c' (encS (D.take j)) rfl q1.out (q2.out _) str_one q3.out q4.out (q5.out _) ?_; intro v' W3 hown3 hgrow3 hnil3; refine Hid.out ?_)
       refine Lib.hid ?_
       obtain ⟨o1, c1, rfl⟩ := own_shape hown3
       have hne1 : Hid (Value.slice o1 (0 + j) c1 ≠ .slice none 0 0) := Lib.hid (fun h => by cases (hnil3.1 h).1)
       have B1 : Hid (Bel W1 W3) := Lib.hid (own_bel (own0.out _) (((Bel.refl W1).drewN _).alloc _) hgrow3)
       have O1 := Lib.hid hown3
       have hcx3 := (Bel.trans hb1.out B1.out).cell' hC0.out
       clear hnil3 hgrow3 hown3 q1 q2 q3 q4 q5 s1
       have q1 := Lib.hid (cell_new1 W3 (.string x) 9)
       have q2 : Hid (∀ u ∈ [Value.string x], u.oneCell' = true) := Lib.hid (fun u hu => by simp at hu; subst hu; rfl)
       have q3 : Hid (0 + j + 1 ≤ maxLen) := Lib.hid (by unfold maxLen; omega)
       have q4 : Hid ((0 + j + 1) * 16 ≤ 140737488355328) := Lib.hid (by omega)
       have q5 : Hid (W1.heap.size ≤ (W3.alloc (.cells #[.string x] 9)).heap.size) := Lib.hid ((B1.out.alloc _).size)
       go_wp2_with (at_builtin; refine wpList_append_own _ rfl _ _ 44 rfl W1.heap.size 9 i0 (.string ByteArray.empty) 1 16 Tryz.underlying44 hi hz0 hz1 hz2 rfl (by decide) _ _ _ rfl (O1.out.alloc _) ⟨W3.heap.size, 0, none⟩ 1 1 [.string x] rfl rfl q1.out q2.out q3.out q4.out q5.out ?_; intro v' W4 hown3 hgrow3 hnil3; refine Hid.out ?_)
       refine Lib.hid ?_
       obtain ⟨o2, c2, rfl⟩ := own_shape hown3
       have hne2 : Hid (Value.slice o2 (0 + j + 1) c2 ≠ .slice none 0 0) := Lib.hid (fun h => hne1.out (hnil3.1 h).1)
       have B2 : Hid (Bel W1 W4) := Lib.hid (own_bel (O1.out.alloc _) (B1.out.alloc _) hgrow3)
       have O2 := Lib.hid hown3
       clear hnil3 hgrow3 hown3 q1 q2 q3 q4 q5 hne1 O1 hcx3 B1
       have q1 : Hid ((encS (D.drop j)).length = (m - j) * 1) := Lib.hid (by rw [encS_len, List.length_drop]; omega)
       have q2 : Hid (∀ i u, (encS (D.drop j))[i]? = some u → W4.cell? (q.add i) = some u) := Lib.hid (enc_cells fun i h => by
        rw [List.length_drop] at h
        rw [Hq.out (by omega), Addr.add_lit, Nat.zero_add, cellD.out _ B2.out (j + i) (by omega), List.getElem_drop])
       have q3 : Hid (0 + j + 1 + (m - j) ≤ maxLen) := Lib.hid (by unfold maxLen; omega)
       have q4 : Hid ((0 + j + 1 + (m - j)) * 16 ≤ 140737488355328) := Lib.hid (by omega)
       have q5 : Hid (W1.heap.size ≤ W4.heap.size) := Lib.hid B2.out.size
       go_wp2_with (at_builtin; refine wpList_append_own _ rfl _ _ 44 rfl W1.heap.size 9 i0 (.string ByteArray.empty) 1 16 Tryz.underlying44 hi hz0 hz1 hz2 rfl (by decide) _ _ _ rfl O2.out q (m - j) (c' - j) (encS (D.drop j)) rfl q1.out q2.out str_one q3.out q4.out q5.out ?_; intro v' W5 hown3 hgrow3 hnil3; refine Hid.out ?_)
       refine Lib.hid ?_
       obtain ⟨o3, c3, rfl⟩ := own_shape hown3
       obtain ⟨g3, rfl, hc3⟩ := own_at hown3 (fun h => by subst h; exact hne2.out (hnil3.1 (by have := hown3.2; rcases this with ⟨h1, _⟩ | ⟨_, _, _, h1, _⟩; exact h1; cases h1)).1)
       have B3 : Hid (Bel w W5) := Lib.hid (Bel.trans hb1.out (own_bel O2.out B2.out hgrow3))
       have hown4 := own_base hown3 hb1.out.size
       rw [List.nil_append, hencs.out] at hown4
       obtain ⟨m3, hm3⟩ : ∃ m3, 0 + j + 1 + (m - j) = m3 := ⟨_, rfl⟩
       rw [hm3] at hown4 hc3 ⊢
       have O4 := Lib.hid hown4
       have zm : m3 = m + 1 := by omega
       have zm1 : m3 ≤ k + 1 := by omega
       clear hnil3 hgrow3 hown3 hown4 q1 q2 q3 q4 q5 hne2 O2 B2 hm3 zm Hq cellD hencs own0 s2
       go_wp2_with fail
       go_round
       case rel => exact ⟨k + 1, m3, c3, g3, D2, rfl, by go_num, by omega, zm1, hc3, hins, O4, B3⟩
       case measure => simp [intOf]; omega
    ·have hpl : pl x.toList (D.map ByteArray.toList) = j := pl_eq (by simp; omega) (fun i h h2 => hbel.out i h h2) (fun h => absurd h (by simp; omega))
     have Hpl := Lib.hid hpl
     have Hown := hown1
     have HINS : Hid (pl x.toList (D.map ByteArray.toList) = (D.map ByteArray.toList).length ∨ (D.map ByteArray.toList)[pl x.toList (D.map ByteArray.toList)]? ≠ some x.toList) := Lib.hid (by
      left
      rw [hpl, List.length_map]
      omega)
     have i1 : ¬ (j : Int) < (m : Int) := by omega
     have hjm1 : ((j : Int) == (m : Int)) = true := by simp; omega
     clear hpl
     go_upto_region 6 with (fail)
     go_quiet (fail)
     go_upto_region 8 with (fail)
     go_quiet (fail)
     obtain ⟨D2, hD2⟩ : ∃ D2, D.take j ++ x :: D.drop j = D2 := ⟨_, rfl⟩
     have hins : Hid (D2.map ByteArray.toList = srt ((xs.map ByteArray.toList).take (k + 1))) := Lib.hid (by
      rw [hS.out, ins_eq, if_pos HINS.out, Hpl.out, ← hD2]
      simp)
     have hencs : Hid (encS (D.take j) ++ [Value.string x] ++ encS (D.drop j) = encS D2) := Lib.hid (by rw [← hD2]; simp [encS])
     have s1 := cut_lo g 0 m c' j (by omega)
     obtain ⟨q, s2, hq⟩ := cut_hi g 0 m c' j hj hmc
     have Hq := Lib.hid hq
     have cellD : Hid (∀ Y : World, Bel W1 Y → ∀ i, (h : i < D.length) → Y.cell? ⟨g, i, none⟩ = some (.string D[i])) := Lib.hid (fun Y hY i h => by
      obtain ⟨a1, e1, h1⟩ := ((own_sarg Hown.out).on hY).2 i h
      obtain rfl := Option.some.inj e1
      rw [Addr.add_lit, Nat.zero_add] at h1
      exact h1)
     have own0 : Hid (∀ N, ((W1.drewN N).alloc (.cells #[] 9)).ownsRow W1.heap.size 9 1 (.slice (some ⟨W1.heap.size, 0, none⟩) 0 0) 0 []) := Lib.hid (fun N => World.ownsRow_made (W1.drewN N) #[] 0 (Nat.le_refl _) (by decide) rfl)
     have q1 : Hid ((encS (D.take j)).length = j * 1) := Lib.hid (by rw [encS_len, List.length_take]; omega)
     have q2 : Hid (∀ N, ∀ i u, (encS (D.take j))[i]? = some u → ((W1.drewN N).alloc (.cells #[] 9)).cell? ((⟨g, 0, none⟩ : Addr).add i) = some u) := Lib.hid (fun N => enc_cells fun i h => by
      rw [List.length_take] at h
      rw [Addr.add_lit, Nat.zero_add, cellD.out _ (((Bel.refl W1).drewN N).alloc _) i (by omega), List.getElem_take])
     have q3 : Hid (0 + j ≤ maxLen) := Lib.hid (by unfold maxLen; omega)
     have q4 : Hid ((0 + j) * 16 ≤ 140737488355328) := Lib.hid (by omega)
     have q5 : Hid (∀ N, W1.heap.size ≤ ((W1.drewN N).alloc (.cells #[] 9)).heap.size) := Lib.hid (fun N => (((Bel.refl W1).drewN N).alloc _).size)
     clear hq hD2 hbel
     go_wp2_with (at_builtin; refine wpList_append_own _ rfl _ _ 44 rfl W1.heap.size 9 i0 (.string ByteArray.empty) 1 16 Tryz.underlying44 hi hz0 hz1 hz2 rfl (by decide) _ _ _ rfl (own0.out _) ⟨g, 0, none⟩ j c' (encS (D.take j)) rfl q1.out (q2.out _) str_one q3.out q4.out (q5.out _) ?_; intro v' W3 hown3 hgrow3 hnil3; refine Hid.out ?_)
     refine Lib.hid ?_
     obtain ⟨o1, c1, rfl⟩ := own_shape hown3
     have hne1 : Hid (Value.slice o1 (0 + j) c1 ≠ .slice none 0 0) := Lib.hid (fun h => by cases (hnil3.1 h).1)
     have B1 : Hid (Bel W1 W3) := Lib.hid (own_bel (own0.out _) (((Bel.refl W1).drewN _).alloc _) hgrow3)
     have O1 := Lib.hid hown3
     have hcx3 := (Bel.trans hb1.out B1.out).cell' hC0.out
     clear hnil3 hgrow3 hown3 q1 q2 q3 q4 q5 s1
     have q1 := Lib.hid (cell_new1 W3 (.string x) 9)
     have q2 : Hid (∀ u ∈ [Value.string x], u.oneCell' = true) := Lib.hid (fun u hu => by simp at hu; subst hu; rfl)
     have q3 : Hid (0 + j + 1 ≤ maxLen) := Lib.hid (by unfold maxLen; omega)
     have q4 : Hid ((0 + j + 1) * 16 ≤ 140737488355328) := Lib.hid (by omega)
     have q5 : Hid (W1.heap.size ≤ (W3.alloc (.cells #[.string x] 9)).heap.size) := Lib.hid ((B1.out.alloc _).size)
     go_wp2_with (at_builtin; refine wpList_append_own _ rfl _ _ 44 rfl W1.heap.size 9 i0 (.string ByteArray.empty) 1 16 Tryz.underlying44 hi hz0 hz1 hz2 rfl (by decide) _ _ _ rfl (O1.out.alloc _) ⟨W3.heap.size, 0, none⟩ 1 1 [.string x] rfl rfl q1.out q2.out q3.out q4.out q5.out ?_; intro v' W4 hown3 hgrow3 hnil3; refine Hid.out ?_)
     refine Lib.hid ?_
     obtain ⟨o2, c2, rfl⟩ := own_shape hown3
     have hne2 : Hid (Value.slice o2 (0 + j + 1) c2 ≠ .slice none 0 0) := Lib.hid (fun h => hne1.out (hnil3.1 h).1)
     have B2 : Hid (Bel W1 W4) := Lib.hid (own_bel (O1.out.alloc _) (B1.out.alloc _) hgrow3)
     have O2 := Lib.hid hown3
     clear hnil3 hgrow3 hown3 q1 q2 q3 q4 q5 hne1 O1 hcx3 B1
     have q1 : Hid ((encS (D.drop j)).length = (m - j) * 1) := Lib.hid (by rw [encS_len, List.length_drop]; omega)
     have q2 : Hid (∀ i u, (encS (D.drop j))[i]? = some u → W4.cell? (q.add i) = some u) := Lib.hid (enc_cells fun i h => by
      rw [List.length_drop] at h
      rw [Hq.out (by omega), Addr.add_lit, Nat.zero_add, cellD.out _ B2.out (j + i) (by omega), List.getElem_drop])
     have q3 : Hid (0 + j + 1 + (m - j) ≤ maxLen) := Lib.hid (by unfold maxLen; omega)
     have q4 : Hid ((0 + j + 1 + (m - j)) * 16 ≤ 140737488355328) := Lib.hid (by omega)
     have q5 : Hid (W1.heap.size ≤ W4.heap.size) := Lib.hid B2.out.size
     go_wp2_with (at_builtin; refine wpList_append_own _ rfl _ _ 44 rfl W1.heap.size 9 i0 (.string ByteArray.empty) 1 16 Tryz.underlying44 hi hz0 hz1 hz2 rfl (by decide) _ _ _ rfl O2.out q (m - j) (c' - j) (encS (D.drop j)) rfl q1.out q2.out str_one q3.out q4.out q5.out ?_; intro v' W5 hown3 hgrow3 hnil3; refine Hid.out ?_)
     refine Lib.hid ?_
     obtain ⟨o3, c3, rfl⟩ := own_shape hown3
     obtain ⟨g3, rfl, hc3⟩ := own_at hown3 (fun h => by subst h; exact hne2.out (hnil3.1 (by have := hown3.2; rcases this with ⟨h1, _⟩ | ⟨_, _, _, h1, _⟩; exact h1; cases h1)).1)
     have B3 : Hid (Bel w W5) := Lib.hid (Bel.trans hb1.out (own_bel O2.out B2.out hgrow3))
     have hown4 := own_base hown3 hb1.out.size
     rw [List.nil_append, hencs.out] at hown4
     obtain ⟨m3, hm3⟩ : ∃ m3, 0 + j + 1 + (m - j) = m3 := ⟨_, rfl⟩
     rw [hm3] at hown4 hc3 ⊢
     have O4 := Lib.hid hown4
     have zm : m3 = m + 1 := by omega
     have zm1 : m3 ≤ k + 1 := by omega
     clear hnil3 hgrow3 hown3 hown4 q1 q2 q3 q4 q5 hne2 O2 B2 hm3 zm Hq cellD hencs own0 s2
     go_wp2_with fail
     go_round
     case rel => exact ⟨k + 1, m3, c3, g3, D2, rfl, by go_num, by omega, zm1, hc3, hins, O4, B3⟩
     case measure => simp [intOf]; omega
  ·obtain rfl : k = n := by omega
   have hz := hD.out
   rw [List.take_of_length_le (by simp; omega)] at hz
   have hz2 := Lib.hid hz
   clear hz hD
   go_wp2
   go_ret
   exact ⟨⟨_, rfl, _, _, _, D, rfl, hz2.out, hown.out⟩, hb.out⟩
end Idn
end Go.Proofs.YtcapkeaedpabjaaGreatDoor
