/-
  Layer 8, texts merged: IdnL, IdnA, IdnC, IdnD, IdnE, IdnM, IdnN. For every argument within the bounds that each theorem names.
-/
import Derived.Lib.SlicesCompact
import Derived.Test.YtcapkeaedpabjaaGreatDoorWA1
import Derived.Test.YtcapkeaedpabjaaGreatDoorWB1
import Derived.Laws.RangeAny
import Derived.Laws.RangeString
import Derived.Deep.LoopGhost
import Derived.Lib.Strings
import Derived.SliceStrings
import Derived.Laws.DeepStrings4
import Derived.Test.YtcapkeaedpabjaaGreatDoorShelf
import Derived.Deep.DeepCutAuto
import Derived.Sort.OwnSorted
import Derived.Lib.OwnBridge

/-
 Plain: the strings of a list in ascending order, each once. No program.
-/
namespace Go.Proofs.YtcapkeaedpabjaaGreatDoor
namespace Idn

abbrev Txt := List UInt8
def asc (D : List Txt) : Prop := D.Pairwise (· < ·)
theorem tlt_irrefl (x : Txt) : ¬ x < x := List.lt_irrefl x
theorem tlt_trans {x y z : Txt} (h : x < y) (k : y < z) : x < z := List.lt_trans h k
theorem tlt_conn {x y : Txt} (h : ¬ x < y) (k : ¬ x = y) : y < x := by
 rcases Classical.em (y < x) with g | g
 ·exact g
 ·exact absurd (List.le_antisymm (List.not_lt.1 g) (List.not_lt.1 h)) k
/-- Where a string stands in an ascending list, or would stand. -/
def pl (x : Txt) : List Txt → Nat
 | [] => 0
 | d :: r => if d < x then pl x r + 1 else 0
def ins (x : Txt) : List Txt → List Txt
 | [] => [x]
 | d :: r => if d < x then d :: ins x r else if d = x then d :: r else x :: d :: r
def srt (l : List Txt) : List Txt := l.foldl (fun D x => ins x D) []
theorem mem_ins (x y : Txt) : ∀ D, y ∈ ins x D ↔ y = x ∨ y ∈ D
 | [] => by simp [ins]
 | d :: r => by
  have ih := mem_ins x y r
  unfold ins
  split
  ·simp only [List.mem_cons, ih]
   grind
  ·split
   ·rename_i h
    subst h
    simp
   ·simp
theorem asc_ins (x : Txt) : ∀ {D}, asc D → asc (ins x D)
 | [], _ => List.pairwise_singleton ..
 | d :: r, h => by
  have ih := asc_ins x (List.pairwise_cons.1 h).2
  have h1 := (List.pairwise_cons.1 h).1
  unfold ins
  split
  ·rename_i hd
   refine List.pairwise_cons.2 ⟨fun y hy => ?_, ih⟩
   rcases (mem_ins x y r).1 hy with rfl | k
   ·exact hd
   ·exact h1 y k
  ·split
   ·exact h
   ·rename_i hd he
    have hxd := tlt_conn hd he
    refine List.pairwise_cons.2 ⟨fun y hy => ?_, h⟩
    rcases List.mem_cons.1 hy with rfl | k
    ·exact hxd
    ·exact tlt_trans hxd (h1 y k)
theorem fold_asc : ∀ (l : List Txt) {D}, asc D → asc (l.foldl (fun D x => ins x D) D)
 | [], _, h => h
 | x :: r, _, h => fold_asc r (asc_ins x h)
theorem fold_mem (y : Txt) : ∀ (l : List Txt) (D : List Txt), y ∈ l.foldl (fun D x => ins x D) D ↔ y ∈ l ∨ y ∈ D
 | [], D => by simp
 | x :: r, D => by
  rw [List.foldl_cons, fold_mem y r, mem_ins]
  simp only [List.mem_cons]
  grind
theorem srt_asc (l : List Txt) : asc (srt l) := fold_asc l List.Pairwise.nil
theorem srt_mem (l : List Txt) (y : Txt) : y ∈ srt l ↔ y ∈ l := by
 unfold srt
 rw [fold_mem]
 simp
/-- Two ascending lists of the same strings are one. -/
theorem asc_ext : ∀ {A B : List Txt}, asc A → asc B → (∀ x, x ∈ A ↔ x ∈ B) → A = B
 | [], [], _, _, _ => rfl
 | [], b :: B, _, _, h => absurd ((h b).2 (List.mem_cons_self ..)) (by simp)
 | a :: A, [], _, _, h => absurd ((h a).1 (List.mem_cons_self ..)) (by simp)
 | a :: A, b :: B, hA, hB, h => by
  have a1 := (List.pairwise_cons.1 hA).1
  have b1 := (List.pairwise_cons.1 hB).1
  have e : a = b := by
   rcases List.mem_cons.1 ((h a).1 (List.mem_cons_self ..)) with e | k
   ·exact e
   ·rcases List.mem_cons.1 ((h b).2 (List.mem_cons_self ..)) with e | g
    ·exact e.symm
    ·exact absurd (tlt_trans (a1 b g) (b1 a k)) (tlt_irrefl _)
  subst e
  rw [asc_ext (List.pairwise_cons.1 hA).2 (List.pairwise_cons.1 hB).2 fun x => ⟨fun k => ?_, fun k => ?_⟩]
  ·rcases List.mem_cons.1 ((h x).1 (List.mem_cons_of_mem _ k)) with e | g
   ·subst e; exact absurd (a1 x k) (tlt_irrefl _)
   ·exact g
  ·rcases List.mem_cons.1 ((h x).2 (List.mem_cons_of_mem _ k)) with e | g
   ·subst e; exact absurd (b1 x k) (tlt_irrefl _)
   ·exact g
/-- Where a list ascends, with or without equal neighbours, what is left of it ascends and has all. -/
theorem compact_inv (zs : List Txt) (hs : zs.Pairwise (fun x y => ¬ y < x)) : ∀ m, m ≤ zs.length → asc (Lib.compactUpTo zs.toArray m) ∧ ∀ x, x ∈ Lib.compactUpTo zs.toArray m ↔ x ∈ zs.take m
 | 0, _ => by simp [Lib.compactUpTo, asc]
 | m + 1, h => by
  obtain ⟨h1, h2⟩ := compact_inv zs hs m (by omega)
  rw [Lib.compactUpTo_succ]
  have hm : m < zs.length := by omega
  have e : zs.toArray[m]! = zs[m] := by simp [hm]
  have hle : ∀ x ∈ zs.take m, ¬ zs[m] < x := fun x hx => by
   obtain ⟨j, hj, rfl⟩ := List.getElem_of_mem hx
   rw [List.getElem_take]
   rw [List.length_take] at hj
   exact List.pairwise_iff_getElem.1 hs j m (by omega) hm (by omega)
  cases hk : Lib.keeps zs.toArray m with
  | true =>
   rw [if_pos rfl, e]
   constructor
   ·refine List.pairwise_append.2 ⟨h1, List.pairwise_singleton .., fun a ha b hb => ?_⟩
    rw [List.mem_singleton] at hb
    subst hb
    have ha' := (h2 a).1 ha
    refine tlt_conn (hle a ha') (fun he => ?_)
    simp only [Lib.keeps, decide_eq_true_eq, e] at hk
    obtain ⟨j, hj, rfl⟩ := List.getElem_of_mem ha'
    rw [List.length_take] at hj
    rw [List.getElem_take] at he
    rcases hk with hk | hk
    ·omega
    ·have e2 : zs.toArray[m - 1]! = zs[m - 1] := by simp [show m - 1 < zs.length by omega]
     rw [e2] at hk
     have hmid : ¬ zs[m - 1] < zs[j] := by
      rcases Nat.lt_or_ge j (m - 1) with g | g
      ·exact List.pairwise_iff_getElem.1 hs j (m - 1) (by omega) (by omega) g
      ·obtain rfl : j = m - 1 := by omega
       exact tlt_irrefl _
     have hup := List.pairwise_iff_getElem.1 hs (m - 1) m (by omega) hm (by omega)
     have := tlt_conn hup hk
     rw [he] at this
     exact hmid this
   ·intro x
    rw [List.mem_append, h2, List.take_succ_eq_append_getElem hm, List.mem_append]
  | false =>
   rw [if_neg (by decide), List.append_nil]
   refine ⟨h1, fun x => ?_⟩
   rw [h2, List.take_succ_eq_append_getElem hm, List.mem_append, List.mem_singleton]
   constructor
   ·exact Or.inl
   ·rintro (g | rfl)
    ·exact g
    ·simp only [Lib.keeps, decide_eq_false_iff_not, not_or, Decidable.not_not, e] at hk
     have e2 : zs.toArray[m - 1]! = zs[m - 1] := by simp [show m - 1 < zs.length by omega]
     rw [hk.2, e2]
     exact List.mem_take_iff_getElem.2 ⟨m - 1, by omega, rfl⟩
/-- What the library's sort and Compact leave. -/
theorem sort_compact (ss : List Txt) : Lib.compact (ss.mergeSort fun x y => decide (x ≤ y)) = srt ss := by
 have hp : (ss.mergeSort fun x y => decide (x ≤ y)).Pairwise (fun x y => ¬ y < x) := by
  have := List.pairwise_mergeSort (le := fun (x y : Txt) => decide (x ≤ y)) (fun a b c h1 h2 => by
   simp only [decide_eq_true_eq] at *
   exact List.le_trans h1 h2) (fun a b => by
   simp only [Bool.or_eq_true, decide_eq_true_eq]
   exact List.le_total a b) ss
  exact this.imp fun h => List.not_lt.2 (of_decide_eq_true h)
 obtain ⟨h1, h2⟩ := compact_inv _ hp _ (Nat.le_refl _)
 refine asc_ext h1 (srt_asc ss) fun x => ?_
 rw [srt_mem]
 have := h2 x
 rw [List.take_length] at this
 exact this.trans List.mem_mergeSort
end Idn
end Go.Proofs.YtcapkeaedpabjaaGreatDoor

/-
 Plain: names, identifiers, patterns, references. No program.
-/
namespace Go.Proofs.YtcapkeaedpabjaaGreatDoor
namespace Idn

def small (c : UInt8) : Bool := decide (97 ≤ c.toNat) && decide (c.toNat ≤ 122)
def big (c : UInt8) : Bool := decide (65 ≤ c.toNat) && decide (c.toNat ≤ 90)
def digit (c : UInt8) : Bool := decide (48 ≤ c.toNat) && decide (c.toNat ≤ 57)
def tailB (c : UInt8) : Bool := small c || digit c || c == 45 || c == 95
def partB (c : UInt8) : Bool := small c || big c || digit c || c == 45 || c == 95 || c == 46 || c == 58 || c == 47
def nameB : List UInt8 → Bool
 | [] => false
 | c :: r => decide (r.length < 24) && small c && r.all tailB
/-- Where a byte first occurs, or the length. -/
def firstAt (c : UInt8) : List UInt8 → Nat
 | [] => 0
 | x :: r => if x = c then 0 else firstAt c r + 1
theorem firstAt_le (c : UInt8) : ∀ l : List UInt8, firstAt c l ≤ l.length
 | [] => Nat.le_refl _
 | x :: r => by
  have := firstAt_le c r
  unfold firstAt
  split
  ·exact Nat.zero_le _
  ·simp; omega
end Idn
end Go.Proofs.YtcapkeaedpabjaaGreatDoor

/-
 Layer 5: the characters of names and identifiers, in the code and in the reference.
-/
namespace Go.Proofs.YtcapkeaedpabjaaGreatDoor
open Go.RowKit
namespace Idn

def digR (r : Int) : Bool := decide (48 ≤ r) && decide (r ≤ 57)
end Idn
end Go.Proofs.YtcapkeaedpabjaaGreatDoor

/-
 Layer 5, the code: Name and ID.
-/
namespace Go.Proofs.YtcapkeaedpabjaaGreatDoor
open Go.RowKit
namespace Idn

theorem dig_byte (c : UInt8) : digR (c.toNat : Int) = digit c := by
 unfold digR digit
 rw [Bool.eq_iff_iff]
 simp
 omega
theorem byte_is (c : UInt8) (n : Nat) (hn : n < 256) : ((c.toNat : Int) == (n : Int)) = (c == UInt8.ofNat n) := by
 rw [Bool.eq_iff_iff, beq_iff_eq, beq_iff_eq]
 constructor
 ·intro h
  apply UInt8.toNat_inj.1
  rw [UInt8.toNat_ofNat']
  omega
 ·rintro rfl
  rw [UInt8.toNat_ofNat']
  omega
theorem toL (s : ByteArray) : s.toList = s.data.toList := Go.ByteArray.toList_eq s
theorem toL_len (s : ByteArray) : s.toList.length = s.size := by rw [toL]; simp
theorem toL_get (s : ByteArray) (k : Nat) (h : k < s.size) : s.toList[k]'(by rw [toL_len]; exact h) = s[k] := by simp only [toL]; rfl
theorem empty_str {s : ByteArray} (h : s.size = 0) : s = ⟨#[]⟩ := by
 cases s with
 | mk d =>
  have : d.size = 0 := h
  rw [Array.eq_empty_of_size_eq_zero this]
end Idn
end Go.Proofs.YtcapkeaedpabjaaGreatDoor

/-
 Layer 5, the reference: Name, ID, Pattern, find, open, begins.
-/
namespace Go.Proofs.YtcapkeaedpabjaaGreatDoor
open Go.RowKit
namespace Idn

theorem last_get (s : ByteArray) (h : 0 < s.size) : s.toList.getLast? = some (s[s.size - 1]'(by omega)) := by
 have hl := toL_len s
 rw [List.getLast?_eq_getElem?, hl, List.getElem?_eq_getElem (by omega), toL_get s (s.size - 1) (by omega)]
/-- The byte at a place. -/
theorem idx_str (s : ByteArray) (k : IntKind) (z : Int) (i : Nat) (hz : z = (i : Int)) (h : i < s.size) (w : World) : (Instr.index 9 (.string s) (.int k z)).run Tryz.prog w = .ok (.int .u8 (s[i].toNat : Int)) w := by
 subst hz
 rw [run_index_string w 9 s k _ Tryz.underlying9, dif_pos ⟨by omega, by omega⟩]
 have e : ((i : Int)).toNat = i := by omega
 simp only [e]
/-- Pieces of a string: the first bytes, all from a place on, what lies between. -/
theorem cutS (s : ByteArray) (i j : Nat) (zi zj : Int) (hi : zi = (i : Int)) (hj : zj = (j : Int)) (h1 : i ≤ j) (h2 : j ≤ s.size) (w : World) :
  (Instr.slice 9 (.string s) (some (.int .i64 zi)) (some (.int .i64 zj)) none).run Tryz.prog w = .ok (.string ⟨((s.toList.drop i).take (j - i)).toArray⟩) w := by
 subst hi hj
 rw [run_slice_string_if w 9 s .i64 .i64 (i : Int) (j : Int) Tryz.underlying9, if_pos ⟨by omega, by omega⟩, if_pos ⟨by omega, by omega⟩, Lib.extract_eq, toL]
 simp only [Int.toNat_natCast]
end Idn
end Go.Proofs.YtcapkeaedpabjaaGreatDoor

/-
 Layer 5: Has, Same and Sorted of the code and of the reference, but for the reference's Sorted.
-/
namespace Go.Proofs.YtcapkeaedpabjaaGreatDoor
open Go.RowKit Go.ChangeShapes Go.WideShapes
namespace Idn

/-- Where a slice that is not empty lies. -/
theorem sl_addr {w : World} {o : Option Addr} {n : Nat} {xs : List ByteArray} (h : SlArg w o n xs) (hn : 0 < n) : ∃ b off, o = some ⟨b, off, none⟩ ∧ ∀ j, j < xs.length → w.cell? ⟨b, off + j, none⟩ = some (.string (xs.getD j ByteArray.empty)) := by
 have hl := h.1
 obtain ⟨⟨b, off, sp⟩, rfl, hc⟩ := h.2 0 (by omega)
 have hs : sp = none := by
  cases sp with
  | none => rfl
  | some x =>
   unfold World.cell? Addr.add at hc
   rw [if_pos rfl] at hc
   split at hc
   ·simp at hc
   ·cases hc
 subst hs
 refine ⟨b, off, rfl, fun j hj => ?_⟩
 obtain ⟨a, e, c⟩ := h.2 j hj
 obtain rfl := Option.some.inj e
 rw [Lib.add_plain] at c
 rw [c, List.getD_eq_getElem?_getD, List.getElem?_eq_getElem hj]
 rfl
end Idn
end Go.Proofs.YtcapkeaedpabjaaGreatDoor

/-
 Layer 5, the code: Sorted.
-/
namespace Go.Proofs.YtcapkeaedpabjaaGreatDoor
open Go.RowKit Go.ChangeShapes Go.WideShapes Go.Sort
namespace Idn

/-- A slice of the call's own that holds these texts. -/
def OutS (w w' : World) (L : List Txt) (v : Value) : Prop := ∃ (o : Option Addr) (k c : Nat) (D : List ByteArray), v = .slice o k c ∧ D.map ByteArray.toList = L ∧ w'.ownsRow w.heap.size 9 1 (.slice o k c) k (encS D)
def outB (L : List Txt) : List ByteArray := L.map fun l => ⟨l.toArray⟩
theorem outB_enc (L : List Txt) : encS (outB L) = L.map encStr := by
 unfold encS outB
 rw [List.map_map]
 rfl
theorem outB_back (L : List Txt) : (outB L).map ByteArray.toList = L := by
 unfold outB
 rw [List.map_map]
 conv => rhs; rw [← List.map_id L]
 apply List.map_congr_left
 intro l _
 exact tl' l
where tl' (l : Txt) : (ByteArray.toList ∘ fun l => ⟨l.toArray⟩) l = id l := Go.ByteArray.toList_mk _
def SortedOut (w : World) (ss : List Txt) (e : Ending) (w' : World) : Prop := (∃ v, e = .returned v ∧ OutS w w' (srt ss) v) ∧ Bel w w'
theorem left_of {w w1 : World} {g cap n nn q : Nat} {os : Array Obj} {ss : List Txt} (hown : w1.ownsRow w.heap.size 9 1 (.slice (some ⟨g, 0, none⟩) n cap) n (ss.map encStr)) (hbel : Below w.heap.size w w1) (hbg : w.heap.size ≤ g) (hlen : ss.length = n) :
  SortedOut w ss (.returned (.slice (some ⟨g, 0, none⟩) (Lib.compact (ss.mergeSort fun x y => decide (x ≤ y))).length cap))
   (putRow encStr (Sort.ahead (grow (putRow encStr (Sort.ahead w1 nn) g 0 (ss.mergeSort fun x y => decide (x ≤ y)).toArray) os) q) g 0 (Lib.compact (ss.mergeSort fun x y => decide (x ≤ y)) ++ List.replicate (n - (Lib.compact (ss.mergeSort fun x y => decide (x ≤ y))).length) []).toArray) := by
 have hl2 : (ss.mergeSort fun x y => decide (x ≤ y)).length = ss.length := List.length_mergeSort ss
 have hle : (Lib.compact (ss.mergeSort fun x y => decide (x ≤ y))).length ≤ (ss.mergeSort fun x y => decide (x ≤ y)).length := by
  unfold Lib.compact Lib.compactUpTo
  rw [List.length_map]
  have := List.length_filter_le (Lib.keeps (ss.mergeSort fun x y => decide (x ≤ y)).toArray) (List.range (ss.mergeSort fun x y => decide (x ≤ y)).length)
  rw [List.length_range] at this
  exact this
 subst hlen
 rcases hown.2 with ⟨h0, _⟩ | ⟨g', cap', cur, hv, hbase, hb, h1, h2, h3, h4⟩
 ·cases h0
 cases hv
 have hs := ownsRow_sorted (n := nn) (os := os) (ts := ss.mergeSort fun x y => decide (x ≤ y)) hl2 hbase hb h1 h2 h3
 have hc := Lib.ownsRow_putRow (q := q) (k := (Lib.compact (ss.mergeSort fun x y => decide (x ≤ y))).length) (ys := Lib.compact (ss.mergeSort fun x y => decide (x ≤ y)) ++ List.replicate (ss.length - (Lib.compact (ss.mergeSort fun x y => decide (x ≤ y))).length) []) hs (by simp; omega) (by omega)
 rw [List.take_left] at hc
 refine ⟨⟨_, rfl, _, _, _, outB (srt ss), rfl, outB_back _, ?_⟩, Lib.below_putRow (hbel.grown (grownBy_sorted _) hbel.size (fun j hj => by cases hj; exact hbase)) hbg⟩
 rw [outB_enc, ← sort_compact]
 exact hc
set_option maxHeartbeats 2000000 in
set_option maxRecDepth 100000 in
theorem sorted_tail (n : Nat) (arg : Value) (ss : List Txt) (w : World) (hn : n ≤ 1000000)
  (hclone : Calls Tryz.prog 103 #[arg] w fun e w' => ∃ v', e = .returned v' ∧ w'.ownsRow w.heap.size 9 1 v' n (ss.map encStr) ∧ v' ≠ .slice none 0 0 ∧ Below w.heap.size w w') :
  Calls Tryz.prog 58 #[arg] w (SortedOut w ss) := by
 go_enter Tryz.func58, Tryz.ntmps58
 go_wp2_with fail
 refine hclone.mono ?_
 rintro e w1 ⟨v1, rfl, hown, hnn, hbel⟩
 obtain ⟨g, cap, rfl, hbg, hgl, hncap, hcm, hlen, hH⟩ := Lib.holds_of_ownsRow hown hnn
 have hsort := Tryz.slices_Sort_string g 0 cap ss w1 hH hgl (by omega)
 rw [hlen] at hsort
 have X := Lib.hid (And.intro hown (And.intro hbel (And.intro hbg (And.intro hgl (And.intro hncap (And.intro hcm (And.intro hlen hH)))))))
 clear hown hbel hH hnn hclone hlen hncap hcm hgl hbg
 go_wp2_with fail
 refine hsort.mono ?_
 rintro e w2 ⟨rfl, nn, os, rfl⟩
 have hl2 : (ss.mergeSort fun x y => decide (x ≤ y)).length = n := by rw [List.length_mergeSort]; exact X.out.2.2.2.2.2.2.1
 have hH2 : Holds encStr (grow (putRow encStr (Sort.ahead w1 nn) g 0 (ss.mergeSort fun x y => decide (x ≤ y)).toArray) os) g 0 (ss.mergeSort fun x y => decide (x ≤ y)).toArray :=
  holds_grow encStr _ os g 0 _ (by simpa [putRow, mapBlock, Sort.ahead] using X.out.2.2.2.1) (holds_putRow encStr _ g 0 _ _ (holds_ahead encStr w1 nn g 0 _ X.out.2.2.2.2.2.2.2) (by simp))
 have hcomp := Tryz.slices_Compact_string g 0 cap (ss.mergeSort fun x y => decide (x ≤ y)) _ hH2 (by omega) (by have := X.out.2.2.2.2.1; omega)
 rw [hl2] at hcomp
 have L := fun q => left_of (w := w) (nn := nn) (q := q) (os := os) X.out.1 X.out.2.1 X.out.2.2.1 X.out.2.2.2.2.2.2.1
 have HL := Lib.hid L
 clear hH2 hsort hl2 L
 generalize hM : (Lib.compact (ss.mergeSort fun x y => decide (x ≤ y))).length = M at *
 clear hM
 go_wp2_with fail
 refine hcomp.mono ?_
 rintro e w3 ⟨rfl, q, rfl⟩
 go_wp2_with fail
 go_ret
 exact HL.out q
theorem sorted_nil (n c : Nat) (w : World) :
  Calls Tryz.prog 58 #[.slice none n c] w (SortedOut w []) := by
 have H1 := Lib.hid (Tryz.slices_Clone_string_nil n c w)
 have H2 := Lib.hid (Tryz.slices_Sort_string_none none 0 w)
 have H3 := Lib.hid (Tryz.slices_Compact_string_empty none 0 w)
 go_enter Tryz.func58, Tryz.ntmps58
 go_wp2_with fail
 refine H1.out.mono ?_
 rintro e w1 ⟨rfl, rfl⟩
 go_wp2_with fail
 refine H2.out.mono ?_
 rintro e w1 ⟨rfl, rfl⟩
 go_wp2_with fail
 refine H3.out.mono ?_
 rintro e w1 ⟨rfl, rfl⟩
 go_wp2_with fail
 go_ret
 exact ⟨⟨_, rfl, none, 0, 0, [], rfl, rfl, World.ownsRow_nil _ _ _ _⟩, Bel.refl _⟩
/-- What Sorted hands back. -/
theorem sorted_any (o : Option Addr) (n c : Nat) (xs : List ByteArray) (hn : n ≤ 1000000) (w : World) (hA : SlArg w o n xs) :
  Calls Tryz.prog 58 #[.slice o n c] w (SortedOut w (xs.map ByteArray.toList)) := by
 have hl := hA.1
 by_cases h0 : n = 0
 ·subst h0
  obtain rfl : xs = [] := List.eq_nil_of_length_eq_zero hl
  cases o with
  | none => exact sorted_nil 0 c w
  | some a => exact sorted_tail 0 _ [] w (by omega) (Tryz.slices_Clone_string_zero a c w)
 ·obtain ⟨b, off, rfl, hc⟩ := sl_addr hA (by omega)
  refine sorted_tail n _ _ w hn ?_
  have e : (xs.map ByteArray.toList).map encStr = (xs.take n).map Value.string := by
   rw [List.take_of_length_le (by omega), List.map_map]
   apply List.map_congr_left
   intro x _
   simp [encStr, toL]
  rw [e]
  exact Tryz.slices_Clone_string b off n c xs w (by omega) (by omega) hc
end Idn
end Go.Proofs.YtcapkeaedpabjaaGreatDoor
