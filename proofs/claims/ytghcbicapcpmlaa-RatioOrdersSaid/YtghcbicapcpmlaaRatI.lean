/-
  Where a slash stands in a text; the contract of the library's Cut at a slash.
-/
import Derived.Test.YtghcbicapcpmlaaRatH
import Derived.Test.YtghcbicapcpmlaaNumK
namespace Go.Proofs.Ytghcbicapcpmlaa
open Go.RowKit
namespace Rat2

/-- The place of the first slash, or the length. -/
def pos : List UInt8 → Nat
  | [] => 0
  | c :: r => if c = 47 then 0 else pos r + 1
theorem pos_le : ∀ l, pos l ≤ l.length
  | [] => Nat.le_refl _
  | c :: r => by
    have := pos_le r
    unfold pos
    split
    · omega
    · simp; exact this
theorem pos_at : ∀ (l : List UInt8) (k : Nat), k ≤ pos l → k < l.length → ((l[k]? = some 47) ↔ k = pos l)
  | [], k, _, h => by simp at h
  | c :: r, 0, _, _ => by
    unfold pos
    by_cases h : c = 47
    · simp [h]
    · simp [h]
  | c :: r, k + 1, h1, h2 => by
    unfold pos at h1 ⊢
    by_cases h : c = 47
    · rw [if_pos h] at h1; omega
    · rw [if_neg h] at h1 ⊢
      have := pos_at r k (by omega) (by simpa using h2)
      simp only [List.getElem?_cons_succ, this]
      omega
theorem pos_index : ∀ l, Lib.indexByte l 47 = if pos l < l.length then (pos l : Int) else -1
  | [] => rfl
  | c :: r => by
    have ih := pos_index r
    unfold Lib.indexByte pos
    by_cases h : c = 47
    · simp [h]
    · have hb : (c == 47) = false := by simpa using h
      rw [hb, if_neg h, ih]
      by_cases h2 : pos r < r.length
      · have e : ((pos r : Int) == -1) = false := by simp
        simp only [h2, if_true, List.length_cons, Nat.add_lt_add_iff_right, e, Bool.false_eq_true, if_false]
        omega
      · simp [h2]

theorem scut (s : ByteArray) (w : World) (hs : s.size ≤ maxLen) (o : Nat) (ho : o < s.size) (hi : Hid (Lib.indexByte s.data.toList 47 = (o : Int))) :
    Calls Try.prog 55 #[.string s, .string ⟨#[47]⟩] w fun e w' => e = .returned (.tuple #[.string (s.extract 0 o), .string (s.extract (o + 1) s.size), .bool true]) ∧ Grown w w' := by
  unfold maxLen at hs
  go_enter Try.func55, Try.ntmps55
  go_wp2_with fail
  refine (Try.stringslite_Index_one s 47 _).mono ?_
  rintro e w1 ⟨rfl, rfl⟩
  rw [hi.out]
  go_wp2_with fail
  go_quiet (fail)
  go_wp2_with fail
  go_ret3
  exact ⟨rfl, Grown.refl _⟩
theorem scut_no (s : ByteArray) (w : World) (hi : Hid (Lib.indexByte s.data.toList 47 = -1)) :
    Calls Try.prog 55 #[.string s, .string ⟨#[47]⟩] w fun e w' => e = .returned (.tuple #[.string s, .string ⟨#[]⟩, .bool false]) ∧ Grown w w' := by
  go_enter Try.func55, Try.ntmps55
  go_wp2_with fail
  refine (Try.stringslite_Index_one s 47 _).mono ?_
  rintro e w1 ⟨rfl, rfl⟩
  rw [hi.out]
  go_wp2_with fail
  go_ret3
  exact ⟨rfl, Grown.refl _⟩
theorem cut_up (s a b : ByteArray) (c : Bool) (w : World) (h : Hid (∀ W, Calls Try.prog 55 #[.string s, .string ⟨#[47]⟩] W fun e w' => e = .returned (.tuple #[.string a, .string b, .bool c]) ∧ Grown W w')) :
    Calls Try.prog 46 #[.string s, .string ⟨#[47]⟩] w fun e w' => e = .returned (.tuple #[.string a, .string b, .bool c]) ∧ Grown w w' := by
  go_enter Try.func46, Try.ntmps46
  go_wp2_with fail
  refine (h.out _).mono ?_
  rintro e w1 ⟨rfl, g1⟩
  go_wp2_with fail
  go_ret3
  exact ⟨rfl, g1⟩
/-- The parts of a text before and behind its first slash. -/
def bef (s : ByteArray) : ByteArray := if pos s.toList < s.size then s.extract 0 (pos s.toList) else s
def aft (s : ByteArray) : ByteArray := if pos s.toList < s.size then s.extract (pos s.toList + 1) s.size else ⟨#[]⟩
def has (s : ByteArray) : Bool := decide (pos s.toList < s.size)
theorem toL (s : ByteArray) : s.toList = s.data.toList := Go.ByteArray.toList_eq s
theorem toL_len (s : ByteArray) : s.toList.length = s.size := by rw [toL]; simp
theorem cut_any (s : ByteArray) (hs : s.size ≤ maxLen) (w : World) :
    Calls Try.prog 46 #[.string s, .string ⟨#[47]⟩] w fun e w' => e = .returned (.tuple #[.string (bef s), .string (aft s), .bool (has s)]) ∧ Grown w w' := by
  have hi := pos_index s.data.toList
  rw [← toL, toL_len] at hi
  refine cut_up s _ _ _ w (Lib.hid fun W => ?_)
  unfold bef aft has
  by_cases h : pos s.toList < s.size
  · rw [if_pos h] at hi
    rw [if_pos h, if_pos h, decide_eq_true h]
    exact scut s W hs _ h (Lib.hid (by rw [← toL]; exact hi))
  · rw [if_neg h] at hi
    rw [if_neg h, if_neg h, decide_eq_false h]
    exact scut_no s W (Lib.hid (by rw [← toL]; exact hi))
theorem bef_size (s : ByteArray) : (bef s).size ≤ s.size := by
  unfold bef
  split
  · simp [ByteArray.size_extract]; omega
  · exact Nat.le_refl _
theorem aft_size (s : ByteArray) : (aft s).size ≤ s.size := by
  unfold aft
  split
  · simp [ByteArray.size_extract]
  · exact Nat.zero_le _

end Rat2
end Go.Proofs.Ytghcbicapcpmlaa
