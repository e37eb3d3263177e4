/-
  Layer 7: runs, blanks and comments; the reference's symbols.
-/
import Derived.Test.YtghjflmanldjlaaDoorLexF
import Derived.Lib.Strings
import Derived.SliceStrings
import Derived.Laws.DeepStrings4
import Derived.Deep.LoopGhost
namespace Go.Proofs.YtghjflmanldjlaaDoor
open Go.RowKit
namespace Lex

theorem toL (s : ByteArray) : s.toList = s.data.toList := Go.ByteArray.toList_eq s
theorem toL_len (s : ByteArray) : s.toList.length = s.size := by rw [toL]; simp
theorem toL_get (s : ByteArray) (k : Nat) (h : k < s.size) : s.toList[k]'(by rw [toL_len]; exact h) = s[k] := by simp only [toL]; rfl
theorem tl (l : Txt) : (⟨l.toArray⟩ : ByteArray).toList = l := Go.ByteArray.toList_mk _
theorem str_back (s : ByteArray) : (⟨s.toList.toArray⟩ : ByteArray) = s := by rw [toL]
theorem drop_get (s : ByteArray) (k : Nat) (h : k < s.size) : s.toList.drop k = s[k] :: s.toList.drop (k + 1) := by
  have hl : k < s.toList.length := by rw [toL_len]; exact h
  rw [List.drop_eq_getElem_cons hl, toL_get s k h]
theorem drop_end (s : ByteArray) {k : Nat} (h : s.size ≤ k) : s.toList.drop k = [] := List.drop_of_length_le (by rw [toL_len]; exact h)
theorem idx_str (s : ByteArray) (k : IntKind) (z : Int) (i : Nat) (hz : z = (i : Int)) (h : i < s.size) (w : World) : (Instr.index 9 (.string s) (.int k z)).run Tryd.prog w = .ok (.int .u8 (s[i].toNat : Int)) w := by
  subst hz
  rw [run_index_string w 9 s k _ Tryd.underlying9, dif_pos ⟨by omega, by omega⟩]
  have e : ((i : Int)).toNat = i := by omega
  simp only [e]
theorem cutS (s : ByteArray) (i j : Nat) (zi zj : Int) (hi : zi = (i : Int)) (hj : zj = (j : Int)) (h1 : i ≤ j) (h2 : j ≤ s.size) (w : World) :
    (Instr.slice 9 (.string s) (some (.int .i64 zi)) (some (.int .i64 zj)) none).run Tryd.prog w = .ok (.string ⟨((s.toList.drop i).take (j - i)).toArray⟩) w := by
  subst hi hj
  rw [run_slice_string_if w 9 s .i64 .i64 (i : Int) (j : Int) Tryd.underlying9, if_pos ⟨by omega, by omega⟩, if_pos ⟨by omega, by omega⟩, Lib.extract_eq, toL]
  simp only [Int.toNat_natCast]
theorem cutH (s : ByteArray) (j : Nat) (zj : Int) (hj : zj = (j : Int)) (h2 : j ≤ s.size) (w : World) :
    (Instr.slice 9 (.string s) none (some (.int .i64 zj)) none).run Tryd.prog w = .ok (.string ⟨(s.toList.take j).toArray⟩) w := by
  subst hj
  rw [run_slice_string_h w 9 s Tryd.underlying9 .i64 (j : Int) (by omega) (by omega)]
  simp only [Int.toNat_natCast]
  rw [Lib.extract_eq, toL, List.drop_zero, Nat.sub_zero]
theorem cutE (s : ByteArray) (i : Nat) (zi : Int) (hi : zi = (i : Int)) (h : i ≤ s.size) (w : World) :
    (Instr.slice 9 (.string s) (some (.int .i64 zi)) none none).run Tryd.prog w = .ok (.string ⟨(s.toList.drop i).toArray⟩) w := by
  subst hi
  have h2 := Lib.extract_eq s i s.size
  rw [run_slice_string_l w 9 s Tryd.underlying9 .i64 (i : Int) (by omega) (by omega)]
  simp only [Int.toNat_natCast]
  rw [h2, ← toL, List.take_of_length_le (by rw [List.length_drop, toL_len]; exact Nat.le_refl _)]
theorem byte_is (c : UInt8) (n : Nat) (hn : n < 256) : ((c.toNat : Int) == (n : Int)) = (c == UInt8.ofNat n) := by
  rw [Bool.eq_iff_iff, beq_iff_eq, beq_iff_eq]
  constructor
  · intro h
    apply UInt8.toNat_inj.1
    rw [UInt8.toNat_ofNat']
    omega
  · rintro rfl
    rw [UInt8.toNat_ofNat']
    omega
def kindI (c : UInt8) : Int := if blankB c then 1 else if headB c then 2 else if digB c then 3 else if c == 34 then 4 else if c == 64 then 5 else 0
theorem blank_byte (c : UInt8) : blankB c = decide ((c.toNat : Int) = 32 ∨ (c.toNat : Int) = 9 ∨ (c.toNat : Int) = 10) := by
  have e1 := byte_is c 32 (by omega)
  have e2 := byte_is c 9 (by omega)
  have e3 := byte_is c 10 (by omega)
  unfold blankB
  rw [show (32 : UInt8) = UInt8.ofNat 32 from rfl, show (9 : UInt8) = UInt8.ofNat 9 from rfl, show (10 : UInt8) = UInt8.ofNat 10 from rfl, ← e1, ← e2, ← e3, Bool.eq_iff_iff]
  simp [or_assoc]
theorem head_byte (c : UInt8) : headB c = decide ((97 ≤ (c.toNat : Int) ∧ (c.toNat : Int) ≤ 122) ∨ (c.toNat : Int) = 95) := by
  have e1 := byte_is c 95 (by omega)
  unfold headB
  rw [show (95 : UInt8) = UInt8.ofNat 95 from rfl, ← e1, Bool.eq_iff_iff]
  simp [UInt8.le_iff_toNat_le]
  omega
theorem dig_byte (c : UInt8) : digB c = decide (48 ≤ (c.toNat : Int) ∧ (c.toNat : Int) ≤ 57) := by
  unfold digB
  rw [Bool.eq_iff_iff]
  simp [UInt8.le_iff_toNat_le]
  omega
theorem kind_byte (c : UInt8) : kindR (c.toNat : Int) = kindI c := by
  unfold kindR kindI
  have e1 := byte_is c 34 (by omega)
  have e2 := byte_is c 64 (by omega)
  rw [blank_byte, head_byte, dig_byte, show (34 : UInt8) = UInt8.ofNat 34 from rfl, show (64 : UInt8) = UInt8.ofNat 64 from rfl, ← e1, ← e2]
  simp
theorem head_not_blank {c : UInt8} (h : headB c = true) : blankB c = false := by
  cases g : blankB c with
  | false => rfl
  | true => rw [(blank_not g).2.2] at h; cases h
theorem dig_not_blank {c : UInt8} (h : digB c = true) : blankB c = false := by
  cases g : blankB c with
  | false => rfl
  | true => rw [(blank_not g).2.1] at h; cases h
theorem kind_head {c : UInt8} (h : headB c = true) : kindI c = 2 := by unfold kindI; rw [head_not_blank h, h]; rfl
theorem kind_dig {c : UInt8} (h : digB c = true) : kindI c = 3 := by unfold kindI; rw [dig_not_blank h, head_not_dig h, h]; rfl
theorem kind_blank {c : UInt8} (h : blankB c = true) : kindI c = 1 := by unfold kindI; rw [h]; rfl
theorem kind_no {c : UInt8} (h : headB c = false) (h2 : digB c = false) : kindI c ≠ 2 ∧ kindI c ≠ 3 := by
  unfold kindI
  rw [h, h2]
  split
  · decide
  · simp only [Bool.false_eq_true, if_false]
    split
    · decide
    split <;> decide
theorem wrap_byte (c : UInt8) : wrap32 (c.toNat : Int) = (c.toNat : Int) := by
  have := c.toNat_lt
  unfold wrap32
  omega
theorem kind_at (c : UInt8) (w : World) : Calls Tryd.prog 32 #[.int .i32 (wrap32 (c.toNat : Int))] w fun e w' => e = .returned (.int .i64 (kindI c)) ∧ w = w' := by
  rw [wrap_byte, ← kind_byte]
  exact kind_any _ _
/-- The length of the run, seen from a place in it. -/
def runAt (k : Nat) (l : Txt) : Nat := if k = 0 then runN l else k + spanN tailB (l.drop k)
theorem runAt_step (s : ByteArray) (k : Nat) (h : k < s.size) : runAt k s.toList = if (if k = 0 then headB s[k] else tailB s[k]) then runAt (k + 1) s.toList else k := by
  have e := drop_get s k h
  unfold runAt
  by_cases hk : k = 0
  · subst hk
    rw [List.drop_zero] at e
    rw [if_pos rfl, if_pos rfl, if_neg (Nat.succ_ne_zero _)]
    conv => lhs; rw [e, run_cons]
    cases headB s[0] <;> simp <;> omega
  · rw [if_neg hk, if_neg hk, if_neg (Nat.succ_ne_zero _), e, spanN]
    cases tailB s[k] <;> simp <;> omega
theorem runAt_end (s : ByteArray) (k : Nat) (h : k = s.size) : runAt k s.toList = k := by
  unfold runAt
  rw [drop_end s (by omega)]
  by_cases hk : k = 0
  · rw [if_pos hk]
    have : s.toList = [] := by apply List.length_eq_zero_iff.1; rw [toL_len]; omega
    rw [this, hk]; rfl
  · rw [if_neg hk]; rfl
set_option maxHeartbeats 400000 in
theorem run_any (s : ByteArray) (hs : s.size ≤ maxLen) (w : World) :
    Calls Tryd.prog 52 #[.string s] w fun e w' => e = .returned (.string ⟨(s.toList.take (runN s.toList)).toArray⟩) ∧ w = w' := by
  unfold maxLen at hs
  have hN : Hid (runAt 0 s.toList = runN s.toList) := Lib.hid rfl
  have hle := run_le s.toList
  rw [toL_len] at hle
  generalize runN s.toList = N at hN hle ⊢
  have sl := fun w => cutH s N (N : Int) rfl hle w
  obtain ⟨T, hT0⟩ : ∃ T : ByteArray, ⟨(s.toList.take N).toArray⟩ = T := ⟨_, rfl⟩
  have hT := Lib.hid hT0
  rw [hT0] at sl ⊢
  clear hT0
  go_enter Tryd.func52, Tryd.ntmps52
  go_wp2
  go_loop [3] (fun i => ∃ k : Nat, i = .int .i64 (k : Int) ∧ k ≤ s.size ∧ Hid (runAt k s.toList = N)) (fun i => s.size - (intOf i).toNat)
  case atStart => exact ⟨0, rfl, Nat.zero_le _, hN⟩
  case round =>
    obtain ⟨k, rfl, hk, hr⟩ := hrel
    clear hN
    by_cases hp : k < s.size
    · have hst := (runAt_step s k hp).symm.trans hr.out
      clear hr
      by_cases h1 : headB s[k] = true
      · have hr2 : Hid (runAt (k + 1) s.toList = N) := Lib.hid (by rw [← hst, if_pos]; unfold tailB; rw [h1]; split <;> rfl)
        have H := Lib.hid (kind_head h1)
        clear h1 hst
        go_wp2_with (go_at_call 32; refine (kind_at _ _).mono ?_; rintro e w' ⟨rfl, rfl⟩; rw [H.out])
        go_round
        case rel => exact ⟨k + 1, by go_num, by omega, hr2⟩
        case measure => simp [intOf]; omega
      · rw [Bool.not_eq_true] at h1
        by_cases h2 : digB s[k] = true
        · have H := Lib.hid (kind_dig h2)
          by_cases h0 : k = 0
          · have hr2 : k = N := by rw [← hst, if_neg]; rw [if_pos h0, h1]; decide
            subst hr2 h0
            clear h1 h2 hst
            go_wp2_with (go_at_call 32; refine (kind_at _ _).mono ?_; rintro e w' ⟨rfl, rfl⟩; rw [H.out])
            go_ret
            exact ⟨by rw [← hT.out]; rfl, rfl⟩
          · have hr2 : Hid (runAt (k + 1) s.toList = N) := Lib.hid (by rw [← hst, if_pos]; rw [if_neg h0]; unfold tailB; rw [h2, Bool.or_true])
            have h00 : ((k : Int) == 0) = false := by simp; omega
            clear h1 h2 hst
            go_wp2_with (go_at_call 32; refine (kind_at _ _).mono ?_; rintro e w' ⟨rfl, rfl⟩; rw [H.out])
            go_round
            case rel => exact ⟨k + 1, by go_num, by omega, hr2⟩
            case measure => simp [intOf]; omega
        · rw [Bool.not_eq_true] at h2
          have hr2 : k = N := by rw [← hst, if_neg]; unfold tailB; rw [h1, h2]; split <;> decide
          obtain ⟨K, hK⟩ : ∃ K, kindI s[k] = K := ⟨_, rfl⟩
          have hn := kind_no h1 h2
          rw [hK] at hn
          have n2 : (K != 2) = true := by simpa using hn.1
          have n3 : (K != 3) = true := by simpa using hn.2
          have H := Lib.hid hK
          subst hr2
          clear h1 h2 hst hK hn
          go_wp2_with (go_at_call 32; refine (kind_at _ _).mono ?_; rintro e w' ⟨rfl, rfl⟩; rw [H.out])
          go_ret
          exact ⟨rfl, rfl⟩
    · have hr2 : k = N := (runAt_end s k (by omega)).symm.trans hr.out
      subst hr2
      clear hr
      go_wp2
      go_ret
      exact ⟨rfl, rfl⟩
theorem span_step (q : UInt8 → Bool) (s : ByteArray) (k : Nat) (h : k < s.size) : k + spanN q (s.toList.drop k) = if q s[k] then (k + 1) + spanN q (s.toList.drop (k + 1)) else k := by
  rw [drop_get s k h, spanN]
  cases q s[k] <;> simp <;> omega
theorem span_stop (q : UInt8 → Bool) (s : ByteArray) (k : Nat) (h : ¬ k < s.size) : k + spanN q (s.toList.drop k) = k := by
  rw [drop_end s (by omega)]; rfl
set_option maxHeartbeats 400000 in
/-- The reference's run. -/
theorem rrun_any (s : ByteArray) (hs : s.size ≤ maxLen) (p : Nat) (w : World) :
    Calls Tryd.prog 27 #[.string s, .int .i64 (p : Int)] w fun e w' => e = .returned (.int .i64 ((p + runN (s.toList.drop p) : Nat) : Int)) ∧ w = w' := by
  unfold maxLen at hs
  by_cases h0 : p < s.size
  · have e := drop_get s p h0
    by_cases h1 : headB s[p] = true
    · have hN : Hid (p + spanN tailB (s.toList.drop p) = p + runN (s.toList.drop p)) := Lib.hid (by rw [e, run_cons, if_pos h1, spanN, show tailB s[p] = true by unfold tailB; rw [h1]; rfl]; rfl)
      generalize p + runN (s.toList.drop p) = N at hN ⊢
      have H := Lib.hid ((head_byte s[p]).symm.trans h1)
      have hd : decide (s.size ≤ p) = false := by simpa using h0
      clear e h1
      go_enter Tryd.func27, Tryd.ntmps27
      go_wp2_with (go_at_call 46; refine (head_any _ _).mono ?_; rintro e w' ⟨rfl, rfl⟩; rw [H.out])
      go_loop [1] (fun i => ∃ k : Nat, i = .int .i64 (k : Int) ∧ k ≤ s.size ∧ Hid (k + spanN tailB (s.toList.drop k) = N)) (fun i => s.size - (intOf i).toNat)
      case atStart => exact ⟨p, rfl, by omega, hN⟩
      case round =>
        obtain ⟨k, rfl, hk, hr⟩ := hrel
        clear H hN
        by_cases hq : k < s.size
        · have hst := (span_step tailB s k hq).symm.trans hr.out
          clear hr
          by_cases h1 : headB s[k] = true
          · have hr2 : Hid (k + 1 + spanN tailB (s.toList.drop (k + 1)) = N) := Lib.hid (by rw [← hst, if_pos]; unfold tailB; rw [h1]; rfl)
            have H := Lib.hid ((head_byte s[k]).symm.trans h1)
            clear h1 hst
            go_wp2_with (go_at_call 46; refine (head_any _ _).mono ?_; rintro e w' ⟨rfl, rfl⟩; rw [H.out])
            go_round
            case rel => exact ⟨k + 1, by go_num, by omega, hr2⟩
            case measure => simp [intOf]; omega
          · rw [Bool.not_eq_true] at h1
            have H := Lib.hid ((head_byte s[k]).symm.trans h1)
            by_cases h2 : digB s[k] = true
            · have hr2 : Hid (k + 1 + spanN tailB (s.toList.drop (k + 1)) = N) := Lib.hid (by rw [← hst, if_pos]; unfold tailB; rw [h2, Bool.or_true])
              have H3 := Lib.hid ((dig_byte s[k]).symm.trans h2)
              clear h1 h2 hst
              go_wp2_with (first | (go_at_call 46; refine (head_any _ _).mono ?_; rintro e w' ⟨rfl, rfl⟩; rw [H.out]) | (go_at_call 40; refine (digit_any _ _).mono ?_; rintro e w' ⟨rfl, rfl⟩; rw [H3.out]))
              go_round
              case rel => exact ⟨k + 1, by go_num, by omega, hr2⟩
              case measure => simp [intOf]; omega
            · rw [Bool.not_eq_true] at h2
              have hr2 : k = N := by rw [← hst, if_neg]; unfold tailB; rw [h1, h2]; decide
              have H3 := Lib.hid ((dig_byte s[k]).symm.trans h2)
              subst hr2
              clear h1 h2 hst
              go_wp2_with (first | (go_at_call 46; refine (head_any _ _).mono ?_; rintro e w' ⟨rfl, rfl⟩; rw [H.out]) | (go_at_call 40; refine (digit_any _ _).mono ?_; rintro e w' ⟨rfl, rfl⟩; rw [H3.out]))
              go_ret
              exact ⟨rfl, rfl⟩
        · have hr2 : k = N := (span_stop tailB s k hq).symm.trans hr.out
          subst hr2
          clear hr
          go_wp2
          go_ret
          exact ⟨rfl, rfl⟩
    · rw [Bool.not_eq_true] at h1
      have H := Lib.hid ((head_byte s[p]).symm.trans h1)
      have hN : p = p + runN (s.toList.drop p) := by rw [e, run_cons, h1]; rfl
      rw [← hN]
      clear e h1 hN
      go_enter Tryd.func27, Tryd.ntmps27
      go_wp2_with (go_at_call 46; refine (head_any _ _).mono ?_; rintro e w' ⟨rfl, rfl⟩; rw [H.out])
      go_ret
      exact ⟨rfl, rfl⟩
  · have hN : p = p + runN (s.toList.drop p) := by rw [drop_end s (by omega)]; rfl
    rw [← hN]
    clear hN
    go_enter Tryd.func27, Tryd.ntmps27
    go_wp2
    go_ret
    exact ⟨rfl, rfl⟩
theorem skip_blank {c : UInt8} (r : Txt) (h : blankB c = true) : skipN false (c :: r) = skipN false r + 1 := by rw [skipN, if_pos h]
theorem skip_note (r : Txt) : skipN false (47 :: 47 :: r) = skipN true (47 :: 47 :: r) := rfl
theorem skip_in {c : UInt8} (r : Txt) (h : c ≠ 10) : skipN true (c :: r) = skipN true r + 1 := by rw [skipN, show (c != 10) = true by simpa using h]
theorem skip_out (r : Txt) : skipN true (10 :: r) = skipN false (10 :: r) := rfl
theorem skip_none {c : UInt8} (r : Txt) (h : blankB c = false) (h2 : (c == 47 && r.head? == some 47) = false) : skipN false (c :: r) = 0 := by rw [skipN, h, h2]; rfl
end Lex
end Go.Proofs.YtghjflmanldjlaaDoor
