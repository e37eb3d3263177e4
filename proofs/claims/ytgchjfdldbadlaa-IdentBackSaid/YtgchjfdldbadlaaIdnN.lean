/-
  Layer 5, the code: Sorted.
-/
import Derived.Test.YtgchjfdldbadlaaIdnM
namespace Go.Proofs.Ytgchjfdldbadlaa
open Go.RowKit Go.ChangeShapes Go.WideShapes Go.Sort
namespace Idn

/-- A slice of the call's own that holds these texts. -/
def OutS (w w' : World) (L : List Txt) (v : Value) : Prop := ∃ (o : Option Addr) (k c : Nat) (D : List ByteArray), v = .slice o k c ∧ D.map ByteArray.toList = L ∧ w'.ownsRow w.heap.size 9 1 (.slice o k c) k (encS D)
def outB (L : List Txt) : List ByteArray := L.map fun l => ⟨l.toArray⟩
theorem outB_enc (L : List Txt) : encS (outB L) = L.map encStr := by
  unfold encS outB
  rw [List.map_map]
  rfl
theorem outB_back (L : List Txt) : (outB L).map ByteArray.toList = L := by
  unfold outB
  rw [List.map_map]
  conv => rhs; rw [← List.map_id L]
  apply List.map_congr_left
  intro l _
  exact tl' l
where tl' (l : Txt) : (ByteArray.toList ∘ fun l => ⟨l.toArray⟩) l = id l := Go.ByteArray.toList_mk _
def SortedOut (w : World) (ss : List Txt) (e : Ending) (w' : World) : Prop := (∃ v, e = .returned v ∧ OutS w w' (srt ss) v) ∧ Bel w w'
theorem left_of {w w1 : World} {g cap n nn q : Nat} {os : Array Obj} {ss : List Txt} (hown : w1.ownsRow w.heap.size 9 1 (.slice (some ⟨g, 0, none⟩) n cap) n (ss.map encStr)) (hbel : Below w.heap.size w w1) (hbg : w.heap.size ≤ g) (hlen : ss.length = n) :
    SortedOut w ss (.returned (.slice (some ⟨g, 0, none⟩) (Lib.compact (ss.mergeSort fun x y => decide (x ≤ y))).length cap))
      (putRow encStr (Sort.ahead (grow (putRow encStr (Sort.ahead w1 nn) g 0 (ss.mergeSort fun x y => decide (x ≤ y)).toArray) os) q) g 0 (Lib.compact (ss.mergeSort fun x y => decide (x ≤ y)) ++ List.replicate (n - (Lib.compact (ss.mergeSort fun x y => decide (x ≤ y))).length) []).toArray) := by
  have hl2 : (ss.mergeSort fun x y => decide (x ≤ y)).length = ss.length := List.length_mergeSort ss
  have hle : (Lib.compact (ss.mergeSort fun x y => decide (x ≤ y))).length ≤ (ss.mergeSort fun x y => decide (x ≤ y)).length := by
    unfold Lib.compact Lib.compactUpTo
    rw [List.length_map]
    have := List.length_filter_le (Lib.keeps (ss.mergeSort fun x y => decide (x ≤ y)).toArray) (List.range (ss.mergeSort fun x y => decide (x ≤ y)).length)
    rw [List.length_range] at this
    exact this
  subst hlen
  rcases hown.2 with ⟨h0, _⟩ | ⟨g', cap', cur, hv, hbase, hb, h1, h2, h3, h4⟩
  · cases h0
  cases hv
  have hs := ownsRow_sorted (n := nn) (os := os) (ts := ss.mergeSort fun x y => decide (x ≤ y)) hl2 hbase hb h1 h2 h3
  have hc := Lib.ownsRow_putRow (q := q) (k := (Lib.compact (ss.mergeSort fun x y => decide (x ≤ y))).length) (ys := Lib.compact (ss.mergeSort fun x y => decide (x ≤ y)) ++ List.replicate (ss.length - (Lib.compact (ss.mergeSort fun x y => decide (x ≤ y))).length) []) hs (by simp; omega) (by omega)
  rw [List.take_left] at hc
  refine ⟨⟨_, rfl, _, _, _, outB (srt ss), rfl, outB_back _, ?_⟩, Lib.below_putRow (hbel.grown (grownBy_sorted _) hbel.size (fun j hj => by cases hj; exact hbase)) hbg⟩
  rw [outB_enc, ← sort_compact]
  exact hc
set_option maxHeartbeats 2000000 in
set_option maxRecDepth 100000 in
theorem sorted_tail (n : Nat) (arg : Value) (ss : List Txt) (w : World) (hn : n ≤ 1000000)
    (hclone : Calls Try.prog 54 #[arg] w fun e w' => ∃ v', e = .returned v' ∧ w'.ownsRow w.heap.size 9 1 v' n (ss.map encStr) ∧ v' ≠ .slice none 0 0 ∧ Below w.heap.size w w') :
    Calls Try.prog 29 #[arg] w (SortedOut w ss) := by
  go_enter Try.func29, Try.ntmps29
  go_wp2_with fail
  refine hclone.mono ?_
  rintro e w1 ⟨v1, rfl, hown, hnn, hbel⟩
  obtain ⟨g, cap, rfl, hbg, hgl, hncap, hcm, hlen, hH⟩ := Lib.holds_of_ownsRow hown hnn
  have hsort := Try.slices_Sort_string g 0 cap ss w1 hH hgl (by omega)
  rw [hlen] at hsort
  have X := Lib.hid (And.intro hown (And.intro hbel (And.intro hbg (And.intro hgl (And.intro hncap (And.intro hcm (And.intro hlen hH)))))))
  clear hown hbel hH hnn hclone hlen hncap hcm hgl hbg
  go_wp2_with fail
  refine hsort.mono ?_
  rintro e w2 ⟨rfl, nn, os, rfl⟩
  have hl2 : (ss.mergeSort fun x y => decide (x ≤ y)).length = n := by rw [List.length_mergeSort]; exact X.out.2.2.2.2.2.2.1
  have hH2 : Holds encStr (grow (putRow encStr (Sort.ahead w1 nn) g 0 (ss.mergeSort fun x y => decide (x ≤ y)).toArray) os) g 0 (ss.mergeSort fun x y => decide (x ≤ y)).toArray :=
    holds_grow encStr _ os g 0 _ (by simpa [putRow, mapBlock, Sort.ahead] using X.out.2.2.2.1) (holds_putRow encStr _ g 0 _ _ (holds_ahead encStr w1 nn g 0 _ X.out.2.2.2.2.2.2.2) (by simp))
  have hcomp := Try.slices_Compact_string g 0 cap (ss.mergeSort fun x y => decide (x ≤ y)) _ hH2 (by omega) (by have := X.out.2.2.2.2.1; omega)
  rw [hl2] at hcomp
  have L := fun q => left_of (w := w) (nn := nn) (q := q) (os := os) X.out.1 X.out.2.1 X.out.2.2.1 X.out.2.2.2.2.2.2.1
  have HL := Lib.hid L
  clear hH2 hsort hl2 L
  generalize hM : (Lib.compact (ss.mergeSort fun x y => decide (x ≤ y))).length = M at *
  clear hM
  go_wp2_with fail
  refine hcomp.mono ?_
  rintro e w3 ⟨rfl, q, rfl⟩
  go_wp2_with fail
  go_ret
  exact HL.out q
theorem sorted_nil (n c : Nat) (w : World) :
    Calls Try.prog 29 #[.slice none n c] w (SortedOut w []) := by
  have H1 := Lib.hid (Try.slices_Clone_string_nil n c w)
  have H2 := Lib.hid (Try.slices_Sort_string_none none 0 w)
  have H3 := Lib.hid (Try.slices_Compact_string_empty none 0 w)
  go_enter Try.func29, Try.ntmps29
  go_wp2_with fail
  refine H1.out.mono ?_
  rintro e w1 ⟨rfl, rfl⟩
  go_wp2_with fail
  refine H2.out.mono ?_
  rintro e w1 ⟨rfl, rfl⟩
  go_wp2_with fail
  refine H3.out.mono ?_
  rintro e w1 ⟨rfl, rfl⟩
  go_wp2_with fail
  go_ret
  exact ⟨⟨_, rfl, none, 0, 0, [], rfl, rfl, World.ownsRow_nil _ _ _ _⟩, Bel.refl _⟩
/-- What Sorted hands back. -/
theorem sorted_any (o : Option Addr) (n c : Nat) (xs : List ByteArray) (hn : n ≤ 1000000) (w : World) (hA : SlArg w o n xs) :
    Calls Try.prog 29 #[.slice o n c] w (SortedOut w (xs.map ByteArray.toList)) := by
  have hl := hA.1
  by_cases h0 : n = 0
  · subst h0
    obtain rfl : xs = [] := List.eq_nil_of_length_eq_zero hl
    cases o with
    | none => exact sorted_nil 0 c w
    | some a => exact sorted_tail 0 _ [] w (by omega) (Try.slices_Clone_string_zero a c w)
  · obtain ⟨b, off, rfl, hc⟩ := sl_addr hA (by omega)
    refine sorted_tail n _ _ w hn ?_
    have e : (xs.map ByteArray.toList).map encStr = (xs.take n).map Value.string := by
      rw [List.take_of_length_le (by omega), List.map_map]
      apply List.map_congr_left
      intro x _
      simp [encStr, toL]
    rw [e]
    exact Try.slices_Clone_string b off n c xs w (by omega) (by omega) hc
end Idn
end Go.Proofs.Ytgchjfdldbadlaa
