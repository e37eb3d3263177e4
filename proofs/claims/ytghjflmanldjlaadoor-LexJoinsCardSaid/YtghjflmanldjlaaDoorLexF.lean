/-
  Layer 7: the kinds of characters; keywords and symbols.
-/
import Derived.Test.YtghjflmanldjlaaDoorLexE
import Derived.Test.YtghjflmanldjlaaDoorSls
import Derived.Test.YtghjflmanldjlaaDoorHshK
import Derived.Laws.DeepStrings4
namespace Go.Proofs.YtghjflmanldjlaaDoor
open Go.RowKit
namespace Lex

def kindR (r : Int) : Int := if r = 32 ∨ r = 9 ∨ r = 10 then 1 else if (97 ≤ r ∧ r ≤ 122) ∨ r = 95 then 2 else if 48 ≤ r ∧ r ≤ 57 then 3 else if r = 34 then 4 else if r = 64 then 5 else 0
theorem kind_any (r : Int) (w : World) :
    Calls Tryd.prog 32 #[.int .i32 r] w fun e w' => e = .returned (.int .i64 (kindR r)) ∧ w = w' := by
  have hK := Lib.hid (show kindR r = if r = 32 ∨ r = 9 ∨ r = 10 then 1 else if (97 ≤ r ∧ r ≤ 122) ∨ r = 95 then 2 else if 48 ≤ r ∧ r ≤ 57 then 3 else if r = 34 then 4 else if r = 64 then 5 else 0 from rfl)
  generalize kindR r = K at hK ⊢
  go_enter Tryd.func32, Tryd.ntmps32
  go_wp2
  all_goals
    go_ret
    refine ⟨?_, rfl⟩
    rw [hK.out]
    clear hK
    congr 2
    repeat' split
    all_goals first | rfl | (exfalso; simp_all <;> omega)
theorem head_any (c : Int) (w : World) : Calls Tryd.prog 46 #[.int .u8 c] w fun e w' => e = .returned (.bool (decide ((97 ≤ c ∧ c ≤ 122) ∨ c = 95))) ∧ w = w' := by
  by_cases h1 : 97 ≤ c
  all_goals
    go_enter Tryd.func46, Tryd.ntmps46
    go_wp2
    all_goals
      go_ret
      refine ⟨?_, rfl⟩
      simp <;> grind
theorem digit_any (c : Int) (w : World) : Calls Tryd.prog 40 #[.int .u8 c] w fun e w' => e = .returned (.bool (decide (48 ≤ c ∧ c ≤ 57))) ∧ w = w' := by
  by_cases h1 : 48 ≤ c
  all_goals
    go_enter Tryd.func40, Tryd.ntmps40
    go_wp2
    all_goals
      go_ret
      refine ⟨?_, rfl⟩
      simp <;> grind
theorem word_or (s : Txt) : wordB s = (s == [102, 117, 110, 99] || s == [108, 101, 116] || s == [105, 102] || s == [101, 108, 115, 101] || s == [119, 104, 105, 108, 101] || s == [114, 101, 116, 117, 114, 110] || s == [97, 110, 100] || s == [111, 114] || s == [110, 111, 116] || s == [110, 117, 108, 108] || s == [116, 114, 117, 101] || s == [102, 97, 108, 115, 101]) := by
  rw [Bool.eq_iff_iff]
  simp [wordB, words, or_assoc]
theorem sym_or (s : Txt) : symB s = (s == [61, 61] || s == [33, 61] || s == [60, 61] || s == [62, 61] || s == [40] || s == [41] || s == [123] || s == [125] || s == [91] || s == [93] || s == [44] || s == [59] || s == [58] || s == [61] || s == [60] || s == [62] || s == [43] || s == [45] || s == [42] || s == [47] || s == [37]) := by
  cases s with
  | nil => rfl
  | cons c q =>
    cases q with
    | nil => rw [Bool.eq_iff_iff]; simp [symB, signs, or_assoc]
    | cons d q2 =>
      cases q2 with
      | nil => rw [Bool.eq_iff_iff]; simp [symB, twos, or_assoc]
      | cons x q3 => simp [symB]
theorem keyword_any (s : ByteArray) (w : World) : Calls Tryd.prog 18 #[.string s] w fun e w' => e = .returned (.bool (wordB s.toList)) ∧ w = w' := by
  have hW := Lib.hid (word_or s.toList)
  generalize wordB s.toList = B at hW ⊢
  go_enter Tryd.func18, Tryd.ntmps18
  go_wp2
  all_goals
    go_ret
    refine ⟨?_, rfl⟩
    rw [hW.out]
    clear hW
    simp_all
theorem rkeyword_any (s : ByteArray) (w : World) : Calls Tryd.prog 19 #[.string s] w fun e w' => e = .returned (.bool (wordB s.toList)) ∧ w = w' := by
  have hW := Lib.hid (word_or s.toList)
  generalize wordB s.toList = B at hW ⊢
  go_enter Tryd.func19, Tryd.ntmps19
  go_wp2
  all_goals
    go_ret
    refine ⟨?_, rfl⟩
    rw [hW.out]
    clear hW
    simp_all
set_option maxHeartbeats 1000000 in
theorem symbol_any (s : ByteArray) (w : World) : Calls Tryd.prog 20 #[.string s] w fun e w' => e = .returned (.bool (symB s.toList)) ∧ w = w' := by
  have hW := Lib.hid (sym_or s.toList)
  generalize symB s.toList = B at hW ⊢
  go_enter Tryd.func20, Tryd.ntmps20
  go_wp2
  all_goals
    go_ret
    refine ⟨?_, rfl⟩
    rw [hW.out]
    clear hW
    simp_all
end Lex
end Go.Proofs.YtghjflmanldjlaaDoor
