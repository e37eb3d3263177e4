/-
  Layer 7, the code: blanks and comments; the reference's symbols; what may follow a backslash.
-/
import Derived.Test.YtghjflmanldjlaaDoorLexH
namespace Go.Proofs.YtghjflmanldjlaaDoor
open Go.RowKit
namespace Lex

/-- Where a byte first occurs, or the length. -/
def firstAt (c : UInt8) : Txt → Nat
  | [] => 0
  | x :: r => if x = c then 0 else firstAt c r + 1
theorem firstAt_le (c : UInt8) : ∀ l : Txt, firstAt c l ≤ l.length
  | [] => Nat.le_refl _
  | x :: r => by
    have := firstAt_le c r
    unfold firstAt
    split
    · exact Nat.zero_le _
    · simp; omega
theorem first_index (c : UInt8) : ∀ l, Lib.indexByte l c = if firstAt c l < l.length then (firstAt c l : Int) else -1
  | [] => rfl
  | x :: r => by
    have ih := first_index c r
    unfold Lib.indexByte firstAt
    by_cases h : x = c
    · simp [h]
    · have hb : (x == c) = false := by simpa using h
      rw [hb, if_neg h, ih]
      by_cases h2 : firstAt c r < r.length
      · have e : ((firstAt c r : Int) == -1) = false := by simp
        simp only [h2, if_true, List.length_cons, Nat.add_lt_add_iff_right, e, Bool.false_eq_true, if_false]
        omega
      · simp [h2]
/-- Cut at the first such byte. -/
def cutL (c : UInt8) (l : List UInt8) : List UInt8 := if firstAt c l < l.length then l.take (firstAt c l) else l
def cutR (c : UInt8) (l : List UInt8) : List UInt8 := if firstAt c l < l.length then l.drop (firstAt c l + 1) else []
theorem size1 (c : UInt8) : (⟨#[c]⟩ : ByteArray).size = 1 := rfl
theorem scut (s A B : ByteArray) (c : UInt8) (o : Nat) (w : World) (hs : s.size ≤ maxLen) (ho : o < s.size) (hi : Hid (Lib.indexByte s.data.toList c = (o : Int))) (hA : Hid (⟨(s.toList.take o).toArray⟩ = A)) (hB : Hid (⟨(s.toList.drop (o + 1)).toArray⟩ = B)) :
    Calls Tryd.prog 51 #[.string s, .string ⟨#[c]⟩] w fun e w' => (∃ b, e = .returned (.tuple #[.string A, .string B, .bool b])) ∧ Bel w w' := by
  unfold maxLen at hs
  have sl := fun w => cutH s o (o : Int) rfl (by omega) w
  have sr := fun w => cutE s (o + 1) ((o : Int) + 1) (by omega) (by omega) w
  rw [hA.out] at sl
  rw [hB.out] at sr
  have h1 := size1 c
  go_enter Tryd.func51, Tryd.ntmps51
  go_wp2_with fail
  refine (Tryd.stringslite_Index_one s c _).mono ?_
  rintro e w1 ⟨rfl, rfl⟩
  rw [hi.out]
  go_wp2_with fail
  have a1 : IntKind.i64.wrap ((o : Int) + 1) = (o : Int) + 1 := by rw [IntKind.wrap_i64]; omega
  go_quiet (fail)
  go_wp2_with fail
  go_ret3
  exact ⟨⟨_, rfl⟩, (Bel.refl w1).drewN _⟩
theorem scut_no (s : ByteArray) (c : UInt8) (w : World) (hi : Hid (Lib.indexByte s.data.toList c = -1)) :
    Calls Tryd.prog 51 #[.string s, .string ⟨#[c]⟩] w fun e w' => (∃ b, e = .returned (.tuple #[.string s, .string ⟨#[]⟩, .bool b])) ∧ Bel w w' := by
  go_enter Tryd.func51, Tryd.ntmps51
  go_wp2_with fail
  refine (Tryd.stringslite_Index_one s c _).mono ?_
  rintro e w1 ⟨rfl, rfl⟩
  rw [hi.out]
  go_wp2_with fail
  go_ret3
  exact ⟨⟨_, rfl⟩, Bel.refl _⟩
theorem cut_up (s A B : ByteArray) (c : UInt8) (w : World) (h : Hid (∀ W, Calls Tryd.prog 51 #[.string s, .string ⟨#[c]⟩] W fun e w' => (∃ b, e = .returned (.tuple #[.string A, .string B, .bool b])) ∧ Bel W w')) :
    Calls Tryd.prog 34 #[.string s, .string ⟨#[c]⟩] w fun e w' => (∃ b, e = .returned (.tuple #[.string A, .string B, .bool b])) ∧ Bel w w' := by
  go_enter Tryd.func34, Tryd.ntmps34
  go_wp2_with fail
  refine (h.out _).mono ?_
  rintro e w1 ⟨⟨b, rfl⟩, g1⟩
  go_wp2_with fail
  go_ret3
  exact ⟨⟨_, rfl⟩, g1⟩
theorem cut_any (s A B : ByteArray) (c : UInt8) (hs : s.size ≤ maxLen) (hA : A.toList = cutL c s.toList) (hB : B.toList = cutR c s.toList) (w : World) :
    Calls Tryd.prog 34 #[.string s, .string ⟨#[c]⟩] w fun e w' => (∃ b, e = .returned (.tuple #[.string A, .string B, .bool b])) ∧ Bel w w' := by
  have hi := first_index c s.data.toList
  have eA : (⟨A.toList.toArray⟩ : ByteArray) = A := by rw [toL]
  have eB : (⟨B.toList.toArray⟩ : ByteArray) = B := by rw [toL]
  have eS : (⟨s.toList.toArray⟩ : ByteArray) = s := by rw [toL]
  rw [← toL, toL_len] at hi
  unfold cutL at hA
  unfold cutR at hB
  rw [toL_len] at hA hB
  refine cut_up s A B c w (Lib.hid fun W => ?_)
  by_cases h : firstAt c s.toList < s.size
  · rw [if_pos h] at hi hA hB
    exact scut s A B c _ W hs h (Lib.hid (by rw [← toL]; exact hi)) (Lib.hid (by rw [← hA, eA])) (Lib.hid (by rw [← hB, eB]))
  · rw [if_neg h] at hi hA hB
    obtain rfl : A = s := by rw [← eA, hA, eS]
    obtain rfl : B = ⟨#[]⟩ := by rw [← eB, hB]
    exact scut_no A c W (Lib.hid (by rw [← toL]; exact hi))
theorem cutL_len (l : Txt) : (cutL 10 l).length = firstAt 10 l := by
  have := firstAt_le 10 l
  unfold cutL
  split
  · rw [List.length_take]; omega
  · omega
theorem skip_line : ∀ l : Txt, skipN true l = firstAt 10 l + skipN false (l.drop (firstAt 10 l))
  | [] => rfl
  | c :: r => by
    unfold firstAt
    by_cases h : c = 10
    · subst h
      rw [if_pos rfl, List.drop_zero, skip_out, Nat.zero_add]
    · rw [if_neg h, skip_in r h, List.drop_succ_cons, skip_line r]
      omega
theorem note_prefix (c : UInt8) (r : Txt) : Lib.hasPrefix (c :: r) [47, 47] = (c == 47 && r.head? == some 47) := by
  unfold Lib.hasPrefix
  cases r with
  | nil => simp [List.isPrefixOf]
  | cons d q =>
    simp only [List.isPrefixOf, List.head?_cons, Bool.and_true]
    rw [Bool.eq_iff_iff]
    simp
    constructor <;> (rintro ⟨rfl, rfl⟩; exact ⟨rfl, rfl⟩)
theorem one_prefix (b c : UInt8) (r : Txt) : Lib.hasPrefix (c :: r) [b] = (b == c) := by
  unfold Lib.hasPrefix
  simp [List.isPrefixOf]
theorem kind_not_blank {c : UInt8} (h : blankB c = false) : kindI c ≠ 1 := by
  unfold kindI
  rw [h]
  simp only [Bool.false_eq_true, if_false]
  repeat' split
  all_goals decide
theorem pre_any (s p : ByteArray) (b : Bool) (h : Lib.hasPrefix s.data.toList p.data.toList = b) (w : World) :
    Calls Tryd.prog 33 #[.string s, .string p] w fun e w' => e = .returned (.bool b) ∧ w = w' := by
  refine (Tryd.strings_HasPrefix s p w).mono fun e w' ⟨he, hw⟩ => ⟨by rw [he, h], hw.symm⟩
set_option maxHeartbeats 1000000 in
theorem ignored_any (s : ByteArray) (hs : s.size ≤ maxLen) (w : World) :
    Calls Tryd.prog 22 #[.string s] w fun e w' => e = .returned (.int .i64 (skipN false s.toList : Int)) ∧ Bel w w' := by
  have hm := hs
  unfold maxLen at hs
  obtain ⟨N, hN0⟩ : ∃ N, skipN false s.toList = N := ⟨_, rfl⟩
  have hN : Hid (0 + skipN false (s.toList.drop 0) = N) := Lib.hid (by rw [List.drop_zero, Nat.zero_add]; exact hN0)
  rw [hN0]
  clear hN0
  go_enter Tryd.func22, Tryd.ntmps22
  go_wp2
  go_loopw [3, 4, 5, 6] (fun i _ _ _ wr => ∃ k : Nat, i = .int .i64 (k : Int) ∧ k ≤ s.size ∧ Hid (k + skipN false (s.toList.drop k) = N) ∧ Bel w wr) (fun i _ _ _ _ => s.size - (intOf i).toNat)
  case atStart => exact ⟨0, rfl, Nat.zero_le _, hN, Bel.refl _⟩
  case round =>
    obtain ⟨k, rfl, hk, hr, G⟩ := hrel
    clear hN
    by_cases hq : k < s.size
    · have hr0 := hr.out
      have hd := drop_get s k hq
      rw [hd] at hr0
      by_cases hb : blankB s[k] = true
      · rw [skip_blank _ hb] at hr0
        have hr2 : Hid (k + 1 + skipN false (s.toList.drop (k + 1)) = N) := Lib.hid (by omega)
        have H := Lib.hid (kind_blank hb)
        clear hr0 hr hb hd
        go_wp2_with (go_at_call 32; refine (kind_at _ _).mono ?_; rintro e w' ⟨rfl, rfl⟩; rw [H.out])
        go_roundw
        case rel => exact ⟨k + 1, by go_num, by omega, hr2, G⟩
        case measure => simp [intOf]; omega
      · rw [Bool.not_eq_true] at hb
        obtain ⟨K, hK⟩ : ∃ K, kindI s[k] = K := ⟨_, rfl⟩
        have n1 : (K == 1) = false := by have := kind_not_blank hb; rw [hK] at this; simpa using this
        have H := Lib.hid hK
        have sl := fun w => cutE s k (k : Int) rfl (by omega) w
        obtain ⟨T, hT⟩ : ∃ T : ByteArray, ⟨(s.toList.drop k).toArray⟩ = T := ⟨_, rfl⟩
        rw [hT] at sl
        have hTl : T.toList = s.toList.drop k := by rw [← hT, tl]
        have hTs : T.size ≤ maxLen := by rw [← toL_len, hTl, List.length_drop, toL_len]; unfold maxLen; omega
        have hp := note_prefix s[k] (s.toList.drop (k + 1))
        rw [← hd, ← hTl, toL] at hp
        by_cases h2 : (s[k] == 47 && (s.toList.drop (k + 1)).head? == some 47) = true
        · rw [h2] at hp
          have HP := Lib.hid (fun w => pre_any T ⟨#[47, 47]⟩ true hp w)
          have hf := firstAt_le 10 (s.toList.drop k)
          rw [List.length_drop, toL_len] at hf
          obtain ⟨A, hA⟩ : ∃ A : ByteArray, A.toList = cutL 10 T.toList := ⟨⟨(cutL 10 T.toList).toArray⟩, tl _⟩
          obtain ⟨B, hB⟩ : ∃ B : ByteArray, B.toList = cutR 10 T.toList := ⟨⟨(cutR 10 T.toList).toArray⟩, tl _⟩
          have HC := Lib.hid (fun w => cut_any T A B 10 hTs hA hB w)
          have hAs : A.size = firstAt 10 (s.toList.drop k) := by rw [← toL_len, hA, cutL_len, hTl]
          have hr2 : Hid (k + A.size + skipN false (s.toList.drop (k + A.size)) = N) := Lib.hid (by
            have e1 : skipN false (s.toList.drop k) = skipN true (s.toList.drop k) := by
              rw [hd]
              rw [Bool.and_eq_true, beq_iff_eq, beq_iff_eq] at h2
              rw [h2.1]
              cases hx : s.toList.drop (k + 1) with
              | nil => rw [hx] at h2; cases h2.2
              | cons d q => rw [hx] at h2; obtain rfl := Option.some.inj h2.2; rfl
            rw [← hr.out, e1, skip_line, ← hAs, List.drop_drop]; omega)
          rw [← hAs] at hf
          have hsz : 0 < A.size := by
            rw [hAs, hd]
            rw [Bool.and_eq_true, beq_iff_eq] at h2
            rw [h2.1]
            unfold firstAt
            rw [if_neg (by decide)]; omega
          clear hr0 hr hb hd hT hTl hTs hp h2 hA hB hAs hK
          go_wp2_with (first | (go_at_call 32; refine (kind_at _ _).mono ?_; rintro e w' ⟨rfl, rfl⟩; rw [H.out]) | (go_at_call 33; refine (HP.out _).mono ?_; rintro e w' ⟨rfl, rfl⟩) | (go_at_call 34; refine (HC.out _).mono ?_; rintro e w' ⟨⟨b, rfl⟩, g⟩; replace G := Bel.trans G g; clear g))
          go_roundw
          case rel => exact ⟨k + A.size, by go_num, by omega, hr2, G⟩
          case measure => simp [intOf]; omega
        · rw [Bool.not_eq_true] at h2
          rw [h2] at hp
          have HP := Lib.hid (fun w => pre_any T ⟨#[47, 47]⟩ false hp w)
          rw [skip_none _ hb h2] at hr0
          obtain rfl : k = N := by omega
          clear hr0 hr hb hd hT hTl hTs hp h2 hK
          go_wp2_with (first | (go_at_call 32; refine (kind_at _ _).mono ?_; rintro e w' ⟨rfl, rfl⟩; rw [H.out]) | (go_at_call 33; refine (HP.out _).mono ?_; rintro e w' ⟨rfl, rfl⟩))
          go_ret
          exact ⟨rfl, G⟩
    · have hr2 : k = N := by have := hr.out; rw [drop_end s (by omega)] at this; exact this
      subst hr2
      clear hr
      go_wp2
      go_ret
      exact ⟨rfl, G⟩
def headIs (p : UInt8 → Bool) : Txt → Bool
  | [] => false
  | d :: _ => p d
def escB (d : UInt8) : Bool := d == 34 || d == 92
theorem pre_head (b : UInt8) (l : Txt) : Lib.hasPrefix l [b] = headIs (· == b) l := by
  cases l with
  | nil => rfl
  | cons d q => rw [one_prefix]; show (b == d) = (d == b); rw [Bool.eq_iff_iff]; simp; exact eq_comm
theorem head_or (l : Txt) : headIs escB l = (headIs (· == 34) l || headIs (· == 92) l) := by cases l <;> rfl
theorem esc_any (T : ByteArray) (b : Bool) (hT : headIs escB T.toList = b) (w : World) :
    Calls Tryd.prog 54 #[.string T] w fun e w' => e = .returned (.bool b) ∧ w = w' := by
  subst hT
  have h34 := pre_head 34 T.data.toList
  have h92 := pre_head 92 T.data.toList
  rw [head_or, toL]
  generalize headIs (· == 34) T.data.toList = b1 at h34 ⊢
  generalize headIs (· == 92) T.data.toList = b2 at h92 ⊢
  have H1 := Lib.hid (fun w => pre_any T ⟨#[34]⟩ b1 h34 w)
  have H2 := Lib.hid (fun w => pre_any T ⟨#[92]⟩ b2 h92 w)
  clear h34 h92
  cases b1 <;> cases b2
  all_goals
    go_enter Tryd.func54, Tryd.ntmps54
    go_wp2_with (go_at_call 33; first | ((with_reducible refine (H1.out _).mono ?_); rintro e w' ⟨rfl, rfl⟩) | ((with_reducible refine (H2.out _).mono ?_); rintro e w' ⟨rfl, rfl⟩))
    go_ret
    exact ⟨rfl, rfl⟩
end Lex
end Go.Proofs.YtghjflmanldjlaaDoor
