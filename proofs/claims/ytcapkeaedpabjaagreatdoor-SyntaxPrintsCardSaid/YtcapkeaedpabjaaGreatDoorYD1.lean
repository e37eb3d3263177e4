/-
  Layer 8, texts merged: LexF, LexG, LexH, LexI, LexJ, LexK. For every argument within the bounds that each theorem names.
-/
import Derived.Test.YtcapkeaedpabjaaGreatDoorYC1
import Derived.Test.YtcapkeaedpabjaaGreatDoorYB1
import Derived.Laws.DeepStrings4
import Derived.Lib.Strings
import Derived.SliceStrings
import Derived.Deep.LoopGhost
import Derived.Test.YtcapkeaedpabjaaGreatDoorShelf
import Derived.Test.YtcapkeaedpabjaaGreatDoorYA1
set_option maxRecDepth 100000
set_option maxHeartbeats 16000000

/-
 Layer 7: the kinds of characters; keywords and symbols.
-/
namespace Go.Proofs.YtcapkeaedpabjaaGreatDoor
open Go.RowKit
namespace Lex

def kindR (r : Int) : Int := if r = 32 ∨ r = 9 ∨ r = 10 then 1 else if (97 ≤ r ∧ r ≤ 122) ∨ r = 95 then 2 else if 48 ≤ r ∧ r ≤ 57 then 3 else if r = 34 then 4 else if r = 64 then 5 else 0
theorem kind_any (r : Int) (w : World) :
  Calls Tryz.prog 111 #[.int .i32 r] w fun e w' => e = .returned (.int .i64 (kindR r)) ∧ w = w' := by
 have hK := Lib.hid (show kindR r = if r = 32 ∨ r = 9 ∨ r = 10 then 1 else if (97 ≤ r ∧ r ≤ 122) ∨ r = 95 then 2 else if 48 ≤ r ∧ r ≤ 57 then 3 else if r = 34 then 4 else if r = 64 then 5 else 0 from rfl)
 generalize kindR r = K at hK ⊢
 go_enter Tryz.func111,Tryz.ntmps111
 go_wp2
 all_goals
  go_ret
  refine ⟨?_,rfl⟩
  rw [hK.out]
  clear hK
  congr 2
  repeat' split
  all_goals first | rfl | (exfalso; simp_all <;> omega)
theorem head_any (c : Int) (w : World) : Calls Tryz.prog 183 #[.int .u8 c] w fun e w' => e = .returned (.bool (decide ((97 ≤ c ∧ c ≤ 122) ∨ c = 95))) ∧ w = w' := by
 by_cases h1 : 97 ≤ c
 all_goals
  go_enter Tryz.func183,Tryz.ntmps183
  go_wp2
  all_goals
   go_ret
   refine ⟨?_,rfl⟩
   simp <;> grind
theorem digit_any (c : Int) (w : World) : Calls Tryz.prog 126 #[.int .u8 c] w fun e w' => e = .returned (.bool (decide (48 ≤ c ∧ c ≤ 57))) ∧ w = w' := by
 by_cases h1 : 48 ≤ c
 all_goals
  go_enter Tryz.func126,Tryz.ntmps126
  go_wp2
  all_goals
   go_ret
   refine ⟨?_,rfl⟩
   simp <;> grind
theorem word_or (s : Txt) : wordB s = (s == [102,117,110,99] || s == [108,101,116] || s == [105,102] || s == [101,108,115,101] || s == [119,104,105,108,101] || s == [114,101,116,117,114,110] || s == [97,110,100] || s == [111,114] || s == [110,111,116] || s == [110,117,108,108] || s == [116,114,117,101] || s == [102,97,108,115,101]) := by
 rw [Bool.eq_iff_iff]
 simp [wordB,words,or_assoc]
theorem sym_or (s : Txt) : symB s = (s == [61,61] || s == [33,61] || s == [60,61] || s == [62,61] || s == [40] || s == [41] || s == [123] || s == [125] || s == [91] || s == [93] || s == [44] || s == [59] || s == [58] || s == [61] || s == [60] || s == [62] || s == [43] || s == [45] || s == [42] || s == [47] || s == [37]) := by
 cases s with
 | nil => rfl
 | cons c q =>
  cases q with
  | nil => rw [Bool.eq_iff_iff]; simp [symB,signs,or_assoc]
  | cons d q2 =>
   cases q2 with
   | nil => rw [Bool.eq_iff_iff]; simp [symB,twos,or_assoc]
   | cons x q3 => simp [symB]
theorem keyword_any (s : ByteArray) (w : World) : Calls Tryz.prog 175 #[.string s] w fun e w' => e = .returned (.bool (wordB s.toList)) ∧ w = w' := by
 have hW := Lib.hid (word_or s.toList)
 generalize wordB s.toList = B at hW ⊢
 go_enter Tryz.func175,Tryz.ntmps175
 go_wp2
 all_goals
  go_ret
  refine ⟨?_,rfl⟩
  rw [hW.out]
  clear hW
  simp_all
theorem rkeyword_any (s : ByteArray) (w : World) : Calls Tryz.prog 130 #[.string s] w fun e w' => e = .returned (.bool (wordB s.toList)) ∧ w = w' := by
 have hW := Lib.hid (word_or s.toList)
 generalize wordB s.toList = B at hW ⊢
 go_enter Tryz.func130,Tryz.ntmps130
 go_wp2
 all_goals
  go_ret
  refine ⟨?_,rfl⟩
  rw [hW.out]
  clear hW
  simp_all
theorem symbol_any (s : ByteArray) (w : World) : Calls Tryz.prog 178 #[.string s] w fun e w' => e = .returned (.bool (symB s.toList)) ∧ w = w' := by
 have hW := Lib.hid (sym_or s.toList)
 generalize symB s.toList = B at hW ⊢
 go_enter Tryz.func178,Tryz.ntmps178
 go_wp2
 all_goals
  go_ret
  refine ⟨?_,rfl⟩
  rw [hW.out]
  clear hW
  simp_all

theorem toL (s : ByteArray) : s.toList = s.data.toList := Go.ByteArray.toList_eq s
theorem toL_len (s : ByteArray) : s.toList.length = s.size := by rw [toL]; simp
theorem toL_get (s : ByteArray) (k : Nat) (h : k < s.size) : s.toList[k]'(by rw [toL_len]; exact h) = s[k] := by simp only [toL]; rfl
theorem tl (l : Txt) : (⟨l.toArray⟩ : ByteArray).toList = l := Go.ByteArray.toList_mk _
theorem str_back (s : ByteArray) : (⟨s.toList.toArray⟩ : ByteArray) = s := by rw [toL]
theorem drop_get (s : ByteArray) (k : Nat) (h : k < s.size) : s.toList.drop k = s[k] :: s.toList.drop (k + 1) := by
 have hl : k < s.toList.length := by rw [toL_len]; exact h
 rw [List.drop_eq_getElem_cons hl,toL_get s k h]
theorem drop_end (s : ByteArray) {k : Nat} (h : s.size ≤ k) : s.toList.drop k = [] := List.drop_of_length_le (by rw [toL_len]; exact h)
theorem idx_str (s : ByteArray) (k : IntKind) (z : Int) (i : Nat) (hz : z = (i : Int)) (h : i < s.size) (w : World) : (Instr.index 9 (.string s) (.int k z)).run Tryz.prog w = .ok (.int .u8 (s[i].toNat : Int)) w := by
 subst hz
 rw [run_index_string w 9 s k _ Tryz.underlying9,dif_pos ⟨by omega,by omega⟩]
 have e : ((i : Int)).toNat = i := by omega
 simp only [e]
theorem cutS (s : ByteArray) (i j : Nat) (zi zj : Int) (hi : zi = (i : Int)) (hj : zj = (j : Int)) (h1 : i ≤ j) (h2 : j ≤ s.size) (w : World) :
  (Instr.slice 9 (.string s) (some (.int .i64 zi)) (some (.int .i64 zj)) none).run Tryz.prog w = .ok (.string ⟨((s.toList.drop i).take (j - i)).toArray⟩) w := by
 subst hi hj
 rw [run_slice_string_if w 9 s .i64 .i64 (i : Int) (j : Int) Tryz.underlying9,if_pos ⟨by omega,by omega⟩,if_pos ⟨by omega,by omega⟩,Lib.extract_eq,toL]
 simp only [Int.toNat_natCast]
theorem cutH (s : ByteArray) (j : Nat) (zj : Int) (hj : zj = (j : Int)) (h2 : j ≤ s.size) (w : World) :
  (Instr.slice 9 (.string s) none (some (.int .i64 zj)) none).run Tryz.prog w = .ok (.string ⟨(s.toList.take j).toArray⟩) w := by
 subst hj
 rw [run_slice_string_h w 9 s Tryz.underlying9 .i64 (j : Int) (by omega) (by omega)]
 simp only [Int.toNat_natCast]
 rw [Lib.extract_eq,toL,List.drop_zero,Nat.sub_zero]
theorem cutE (s : ByteArray) (i : Nat) (zi : Int) (hi : zi = (i : Int)) (h : i ≤ s.size) (w : World) :
  (Instr.slice 9 (.string s) (some (.int .i64 zi)) none none).run Tryz.prog w = .ok (.string ⟨(s.toList.drop i).toArray⟩) w := by
 subst hi
 have h2 := Lib.extract_eq s i s.size
 rw [run_slice_string_l w 9 s Tryz.underlying9 .i64 (i : Int) (by omega) (by omega)]
 simp only [Int.toNat_natCast]
 rw [h2,← toL,List.take_of_length_le (by rw [List.length_drop,toL_len]; exact Nat.le_refl _)]
theorem byte_is (c : UInt8) (n : Nat) (hn : n < 256) : ((c.toNat : Int) == (n : Int)) = (c == UInt8.ofNat n) := by
 rw [Bool.eq_iff_iff,beq_iff_eq,beq_iff_eq]
 constructor
 ·intro h
  apply UInt8.toNat_inj.1
  rw [UInt8.toNat_ofNat']
  omega
 ·rintro rfl
  rw [UInt8.toNat_ofNat']
  omega
def kindI (c : UInt8) : Int := if blankB c then 1 else if headB c then 2 else if digB c then 3 else if c == 34 then 4 else if c == 64 then 5 else 0
theorem blank_byte (c : UInt8) : blankB c = decide ((c.toNat : Int) = 32 ∨ (c.toNat : Int) = 9 ∨ (c.toNat : Int) = 10) := by
 have e1 := byte_is c 32 (by omega)
 have e2 := byte_is c 9 (by omega)
 have e3 := byte_is c 10 (by omega)
 unfold blankB
 rw [show (32 : UInt8) = UInt8.ofNat 32 from rfl,show (9 : UInt8) = UInt8.ofNat 9 from rfl,show (10 : UInt8) = UInt8.ofNat 10 from rfl,← e1,← e2,← e3,Bool.eq_iff_iff]
 simp [or_assoc]
theorem head_byte (c : UInt8) : headB c = decide ((97 ≤ (c.toNat : Int) ∧ (c.toNat : Int) ≤ 122) ∨ (c.toNat : Int) = 95) := by
 have e1 := byte_is c 95 (by omega)
 unfold headB
 rw [show (95 : UInt8) = UInt8.ofNat 95 from rfl,← e1,Bool.eq_iff_iff]
 simp [UInt8.le_iff_toNat_le]
 omega
theorem dig_byte (c : UInt8) : digB c = decide (48 ≤ (c.toNat : Int) ∧ (c.toNat : Int) ≤ 57) := by
 unfold digB
 rw [Bool.eq_iff_iff]
 simp [UInt8.le_iff_toNat_le]
 omega
theorem kind_byte (c : UInt8) : kindR (c.toNat : Int) = kindI c := by
 unfold kindR kindI
 have e1 := byte_is c 34 (by omega)
 have e2 := byte_is c 64 (by omega)
 rw [blank_byte,head_byte,dig_byte,show (34 : UInt8) = UInt8.ofNat 34 from rfl,show (64 : UInt8) = UInt8.ofNat 64 from rfl,← e1,← e2]
 simp
theorem head_not_blank {c : UInt8} (h : headB c = true) : blankB c = false := by
 cases g : blankB c with
 | false => rfl
 | true => rw [(blank_not g).2.2] at h; cases h
theorem dig_not_blank {c : UInt8} (h : digB c = true) : blankB c = false := by
 cases g : blankB c with
 | false => rfl
 | true => rw [(blank_not g).2.1] at h; cases h
theorem kind_head {c : UInt8} (h : headB c = true) : kindI c = 2 := by unfold kindI; rw [head_not_blank h,h]; rfl
theorem kind_dig {c : UInt8} (h : digB c = true) : kindI c = 3 := by unfold kindI; rw [dig_not_blank h,head_not_dig h,h]; rfl
theorem kind_blank {c : UInt8} (h : blankB c = true) : kindI c = 1 := by unfold kindI; rw [h]; rfl
theorem kind_no {c : UInt8} (h : headB c = false) (h2 : digB c = false) : kindI c ≠ 2 ∧ kindI c ≠ 3 := by
 unfold kindI
 rw [h,h2]
 split
 ·decide
 ·simp only [Bool.false_eq_true,if_false]
  split
  ·decide
  split <;> decide
theorem wrap_byte (c : UInt8) : wrap32 (c.toNat : Int) = (c.toNat : Int) := by
 have := c.toNat_lt
 unfold wrap32
 omega
theorem kind_at (c : UInt8) (w : World) : Calls Tryz.prog 111 #[.int .i32 (wrap32 (c.toNat : Int))] w fun e w' => e = .returned (.int .i64 (kindI c)) ∧ w = w' := by
 rw [wrap_byte,← kind_byte]
 exact kind_any _ _
def runAt (k : Nat) (l : Txt) : Nat := if k = 0 then runN l else k + spanN tailB (l.drop k)
theorem runAt_step (s : ByteArray) (k : Nat) (h : k < s.size) : runAt k s.toList = if (if k = 0 then headB s[k] else tailB s[k]) then runAt (k + 1) s.toList else k := by
 have e := drop_get s k h
 unfold runAt
 by_cases hk : k = 0
 ·subst hk
  rw [List.drop_zero] at e
  rw [if_pos rfl,if_pos rfl,if_neg (Nat.succ_ne_zero _)]
  conv => lhs; rw [e,run_cons]
  cases headB s[0] <;> simp <;> omega
 ·rw [if_neg hk,if_neg hk,if_neg (Nat.succ_ne_zero _),e,spanN]
  cases tailB s[k] <;> simp <;> omega
theorem runAt_end (s : ByteArray) (k : Nat) (h : k = s.size) : runAt k s.toList = k := by
 unfold runAt
 rw [drop_end s (by omega)]
 by_cases hk : k = 0
 ·rw [if_pos hk]
  have : s.toList = [] := by apply List.length_eq_zero_iff.1; rw [toL_len]; omega
  rw [this,hk]; rfl
 ·rw [if_neg hk]; rfl
theorem run_any (s : ByteArray) (hs : s.size ≤ maxLen) (w : World) :
  Calls Tryz.prog 174 #[.string s] w fun e w' => e = .returned (.string ⟨(s.toList.take (runN s.toList)).toArray⟩) ∧ w = w' := by
 unfold maxLen at hs
 have hN : Hid (runAt 0 s.toList = runN s.toList) := Lib.hid rfl
 have hle := run_le s.toList
 rw [toL_len] at hle
 generalize runN s.toList = N at hN hle ⊢
 have sl := fun w => cutH s N (N : Int) rfl hle w
 obtain ⟨T,hT0⟩ : ∃ T : ByteArray,⟨(s.toList.take N).toArray⟩ = T := ⟨_,rfl⟩
 have hT := Lib.hid hT0
 rw [hT0] at sl ⊢
 clear hT0
 go_enter Tryz.func174,Tryz.ntmps174
 go_wp2
 go_loop [3] (fun i => ∃ k : Nat,i = .int .i64 (k : Int) ∧ k ≤ s.size ∧ Hid (runAt k s.toList = N)) (fun i => s.size - (intOf i).toNat)
 case atStart => exact ⟨0,rfl,Nat.zero_le _,hN⟩
 case round =>
  obtain ⟨k,rfl,hk,hr⟩ := hrel
  clear hN
  by_cases hp : k < s.size
  ·have hst := (runAt_step s k hp).symm.trans hr.out
   clear hr
   by_cases h1 : headB s[k] = true
   ·have hr2 : Hid (runAt (k + 1) s.toList = N) := Lib.hid (by rw [← hst,if_pos]; unfold tailB; rw [h1]; split <;> rfl)
    have H := Lib.hid (kind_head h1)
    clear h1 hst
    go_wp2_with (go_at_call 111; refine (kind_at _ _).mono ?_; rintro e w' ⟨rfl,rfl⟩; rw [H.out])
    go_round
    case rel => exact ⟨k + 1,by go_num,by omega,hr2⟩
    case measure => simp [intOf]; omega
   ·rw [Bool.not_eq_true] at h1
    by_cases h2 : digB s[k] = true
    ·have H := Lib.hid (kind_dig h2)
     by_cases h0 : k = 0
     ·have hr2 : k = N := by rw [← hst,if_neg]; rw [if_pos h0,h1]; decide
      subst hr2 h0
      clear h1 h2 hst
      go_wp2_with (go_at_call 111; refine (kind_at _ _).mono ?_; rintro e w' ⟨rfl,rfl⟩; rw [H.out])
      go_ret
      exact ⟨by rw [← hT.out]; rfl,rfl⟩
     ·have hr2 : Hid (runAt (k + 1) s.toList = N) := Lib.hid (by rw [← hst,if_pos]; rw [if_neg h0]; unfold tailB; rw [h2,Bool.or_true])
      have h00 : ((k : Int) == 0) = false := by simp; omega
      clear h1 h2 hst
      go_wp2_with (go_at_call 111; refine (kind_at _ _).mono ?_; rintro e w' ⟨rfl,rfl⟩; rw [H.out])
      go_round
      case rel => exact ⟨k + 1,by go_num,by omega,hr2⟩
      case measure => simp [intOf]; omega
    ·rw [Bool.not_eq_true] at h2
     have hr2 : k = N := by rw [← hst,if_neg]; unfold tailB; rw [h1,h2]; split <;> decide
     obtain ⟨K,hK⟩ : ∃ K,kindI s[k] = K := ⟨_,rfl⟩
     have hn := kind_no h1 h2
     rw [hK] at hn
     have n2 : (K != 2) = true := by simpa using hn.1
     have n3 : (K != 3) = true := by simpa using hn.2
     have H := Lib.hid hK
     subst hr2
     clear h1 h2 hst hK hn
     go_wp2_with (go_at_call 111; refine (kind_at _ _).mono ?_; rintro e w' ⟨rfl,rfl⟩; rw [H.out])
     go_ret
     exact ⟨rfl,rfl⟩
  ·have hr2 : k = N := (runAt_end s k (by omega)).symm.trans hr.out
   subst hr2
   clear hr
   go_wp2
   go_ret
   exact ⟨rfl,rfl⟩
theorem span_step (q : UInt8 → Bool) (s : ByteArray) (k : Nat) (h : k < s.size) : k + spanN q (s.toList.drop k) = if q s[k] then (k + 1) + spanN q (s.toList.drop (k + 1)) else k := by
 rw [drop_get s k h,spanN]
 cases q s[k] <;> simp <;> omega
theorem span_stop (q : UInt8 → Bool) (s : ByteArray) (k : Nat) (h : ¬ k < s.size) : k + spanN q (s.toList.drop k) = k := by
 rw [drop_end s (by omega)]; rfl
theorem rrun_any (s : ByteArray) (hs : s.size ≤ maxLen) (p : Nat) (w : World) :
  Calls Tryz.prog 129 #[.string s,.int .i64 (p : Int)] w fun e w' => e = .returned (.int .i64 ((p + runN (s.toList.drop p) : Nat) : Int)) ∧ w = w' := by
 unfold maxLen at hs
 by_cases h0 : p < s.size
 ·have e := drop_get s p h0
  by_cases h1 : headB s[p] = true
  ·have hN : Hid (p + spanN tailB (s.toList.drop p) = p + runN (s.toList.drop p)) := Lib.hid (by rw [e,run_cons,if_pos h1,spanN,show tailB s[p] = true by unfold tailB; rw [h1]; rfl]; rfl)
   generalize p + runN (s.toList.drop p) = N at hN ⊢
   have H := Lib.hid ((head_byte s[p]).symm.trans h1)
   have hd : decide (s.size ≤ p) = false := by simpa using h0
   clear e h1
   go_enter Tryz.func129,Tryz.ntmps129
   go_wp2_with (go_at_call 183; refine (head_any _ _).mono ?_; rintro e w' ⟨rfl,rfl⟩; rw [H.out])
   go_loop [1] (fun i => ∃ k : Nat,i = .int .i64 (k : Int) ∧ k ≤ s.size ∧ Hid (k + spanN tailB (s.toList.drop k) = N)) (fun i => s.size - (intOf i).toNat)
   case atStart => exact ⟨p,rfl,by omega,hN⟩
   case round =>
    obtain ⟨k,rfl,hk,hr⟩ := hrel
    clear H hN
    by_cases hq : k < s.size
    ·have hst := (span_step tailB s k hq).symm.trans hr.out
     clear hr
     by_cases h1 : headB s[k] = true
     ·have hr2 : Hid (k + 1 + spanN tailB (s.toList.drop (k + 1)) = N) := Lib.hid (by rw [← hst,if_pos]; unfold tailB; rw [h1]; rfl)
      have H := Lib.hid ((head_byte s[k]).symm.trans h1)
      clear h1 hst
      go_wp2_with (go_at_call 183; refine (head_any _ _).mono ?_; rintro e w' ⟨rfl,rfl⟩; rw [H.out])
      go_round
      case rel => exact ⟨k + 1,by go_num,by omega,hr2⟩
      case measure => simp [intOf]; omega
     ·rw [Bool.not_eq_true] at h1
      have H := Lib.hid ((head_byte s[k]).symm.trans h1)
      by_cases h2 : digB s[k] = true
      ·have hr2 : Hid (k + 1 + spanN tailB (s.toList.drop (k + 1)) = N) := Lib.hid (by rw [← hst,if_pos]; unfold tailB; rw [h2,Bool.or_true])
       have H3 := Lib.hid ((dig_byte s[k]).symm.trans h2)
       clear h1 h2 hst
       go_wp2_with (first | (go_at_call 183; refine (head_any _ _).mono ?_; rintro e w' ⟨rfl,rfl⟩; rw [H.out]) | (go_at_call 126; refine (digit_any _ _).mono ?_; rintro e w' ⟨rfl,rfl⟩; rw [H3.out]))
       go_round
       case rel => exact ⟨k + 1,by go_num,by omega,hr2⟩
       case measure => simp [intOf]; omega
      ·rw [Bool.not_eq_true] at h2
       have hr2 : k = N := by rw [← hst,if_neg]; unfold tailB; rw [h1,h2]; decide
       have H3 := Lib.hid ((dig_byte s[k]).symm.trans h2)
       subst hr2
       clear h1 h2 hst
       go_wp2_with (first | (go_at_call 183; refine (head_any _ _).mono ?_; rintro e w' ⟨rfl,rfl⟩; rw [H.out]) | (go_at_call 126; refine (digit_any _ _).mono ?_; rintro e w' ⟨rfl,rfl⟩; rw [H3.out]))
       go_ret
       exact ⟨rfl,rfl⟩
    ·have hr2 : k = N := (span_stop tailB s k hq).symm.trans hr.out
     subst hr2
     clear hr
     go_wp2
     go_ret
     exact ⟨rfl,rfl⟩
  ·rw [Bool.not_eq_true] at h1
   have H := Lib.hid ((head_byte s[p]).symm.trans h1)
   have hN : p = p + runN (s.toList.drop p) := by rw [e,run_cons,h1]; rfl
   rw [← hN]
   clear e h1 hN
   go_enter Tryz.func129,Tryz.ntmps129
   go_wp2_with (go_at_call 183; refine (head_any _ _).mono ?_; rintro e w' ⟨rfl,rfl⟩; rw [H.out])
   go_ret
   exact ⟨rfl,rfl⟩
 ·have hN : p = p + runN (s.toList.drop p) := by rw [drop_end s (by omega)]; rfl
  rw [← hN]
  clear hN
  go_enter Tryz.func129,Tryz.ntmps129
  go_wp2
  go_ret
  exact ⟨rfl,rfl⟩
theorem skip_blank {c : UInt8} (r : Txt) (h : blankB c = true) : skipN false (c :: r) = skipN false r + 1 := by rw [skipN,if_pos h]
theorem skip_note (r : Txt) : skipN false (47 :: 47 :: r) = skipN true (47 :: 47 :: r) := rfl
theorem skip_in {c : UInt8} (r : Txt) (h : c ≠ 10) : skipN true (c :: r) = skipN true r + 1 := by rw [skipN,show (c != 10) = true by simpa using h]
theorem skip_out (r : Txt) : skipN true (10 :: r) = skipN false (10 :: r) := rfl
theorem skip_none {c : UInt8} (r : Txt) (h : blankB c = false) (h2 : (c == 47 && r.head? == some 47) = false) : skipN false (c :: r) = 0 := by rw [skipN,h,h2]; rfl

theorem neb {c : UInt8} (n : Nat) (hn : n < 256) (h : c ≠ UInt8.ofNat n) : ((c.toNat : Int) == (n : Int)) = false ∧ ((c.toNat : Int) != (n : Int)) = true := by
 have e := byte_is c n hn
 have : (c == UInt8.ofNat n) = false := by simpa using h
 rw [this] at e
 exact ⟨e,by unfold bne; rw [e]; rfl⟩
theorem blank_ways {c : UInt8} (h : blankB c = true) : c = 32 ∨ c = 9 ∨ c = 10 := by unfold blankB at h; simpa [or_assoc] using h
theorem blank_nots {c : UInt8} (h : blankB c = false) : c ≠ 32 ∧ c ≠ 9 ∧ c ≠ 10 := by
 refine ⟨?_,?_,?_⟩ <;> (rintro rfl; cases h)
theorem nat32 : (32 : UInt8).toNat = 32 ∧ (9 : UInt8).toNat = 9 ∧ (10 : UInt8).toNat = 10 ∧ (47 : UInt8).toNat = 47 := ⟨rfl,rfl,rfl,rfl⟩
theorem rskip_any (s : ByteArray) (hs : s.size ≤ maxLen) (p : Nat) (hp : p ≤ s.size) (w : World) :
  Calls Tryz.prog 69 #[.string s,.int .i64 (p : Int)] w fun e w' => e = .returned (.int .i64 ((p + skipN false (s.toList.drop p) : Nat) : Int)) ∧ w = w' := by
 unfold maxLen at hs
 obtain ⟨N,hN0⟩ : ∃ N,p + skipN false (s.toList.drop p) = N := ⟨_,rfl⟩
 have hN := Lib.hid hN0
 rw [hN0]
 clear hN0
 go_enter Tryz.func69,Tryz.ntmps69
 go_wp2
 go_loop [1] (fun i => ∃ k : Nat,i = .int .i64 (k : Int) ∧ k ≤ s.size ∧ Hid (k + skipN false (s.toList.drop k) = N)) (fun i => s.size - (intOf i).toNat)
 case atStart => exact ⟨p,rfl,hp,hN⟩
 case round =>
  obtain ⟨k,rfl,hk,hr⟩ := hrel
  clear hN
  by_cases hq : k < s.size
  ·have hr0 := hr.out
   rw [drop_get s k hq] at hr0
   clear hr
   obtain ⟨c,hc⟩ : ∃ c,s[k] = c := ⟨_,rfl⟩
   rw [hc] at hr0
   have hi := fun w => idx_str s .i64 (k : Int) k rfl hq w
   rw [hc] at hi
   clear hc
   by_cases hb : blankB c = true
   ·rw [skip_blank _ hb] at hr0
    have hr2 : Hid (k + 1 + skipN false (s.toList.drop (k + 1)) = N) := Lib.hid (by omega)
    clear hr0
    rcases blank_ways hb with rfl | rfl | rfl
    all_goals
     simp only [nat32.1,nat32.2.1,nat32.2.2.1] at hi
     go_wp2
     go_round
     case rel => exact ⟨k + 1,by go_num,by omega,hr2⟩
     case measure => simp [intOf]; omega
   ·rw [Bool.not_eq_true] at hb
    obtain ⟨b1,b2,b3⟩ := blank_nots hb
    have f1 : ((c.toNat : Int) == 32) = false := (neb 32 (by omega) b1).1
    have f2 : ((c.toNat : Int) == 9) = false := (neb 9 (by omega) b2).1
    have f3 : ((c.toNat : Int) == 10) = false := (neb 10 (by omega) b3).1
    clear b1 b2 b3
    by_cases h47 : c = 47
    ·subst h47
     simp only [nat32.2.2.2] at hi f1 f2 f3
     by_cases hq1 : k + 1 < s.size
     ·obtain ⟨d,hd⟩ : ∃ d,s[k + 1] = d := ⟨_,rfl⟩
      have hi2 := fun w => idx_str s .i64 ((k : Int) + 1) (k + 1) (by omega) hq1 w
      have hz : decide ((s.size : Int) ≤ (k : Int) + 1) = false := by simp; omega
      rw [drop_get s (k + 1) hq1,hd] at hr0
      rw [hd] at hi2
      by_cases d47 : d = 47
      ·subst d47
       rw [skip_note] at hr0
       have hk47 : s[k] ≠ 10 := by
        intro e
        have := hi w
        rw [idx_str s .i64 (k : Int) k rfl hq w,e] at this
        simp at this
       have hin : Hid (k + skipN true (s.toList.drop k) = N) := Lib.hid (by
        rw [← hr0,drop_get s k hq,drop_get s (k + 1) hq1,hd]
        congr 2
        have := hi w
        rw [idx_str s .i64 (k : Int) k rfl hq w] at this
        simp at this
        have e47 : s[k] = 47 := UInt8.toNat_inj.1 (by rw [nat32.2.2.2]; omega)
        rw [e47])
       simp only [nat32.2.2.2] at hi2
       clear hr0 hd hb
       go_wp2
       go_loop [1] (fun i => ∃ j : Nat,i = .int .i64 (j : Int) ∧ k ≤ j ∧ j ≤ s.size ∧ Hid (j + skipN true (s.toList.drop j) = N)) (fun i => s.size - (intOf i).toNat)
       case atStart => exact ⟨k,rfl,Nat.le_refl _,hk,hin⟩
       case round =>
        obtain ⟨j,rfl,hkj,hj,hr⟩ := hrel
        clear hi hi2 f1 f2 f3 hin
        by_cases hqj : j < s.size
        ·have hr1 := hr.out
         rw [drop_get s j hqj] at hr1
         clear hr
         by_cases d10 : s[j] = 10
         ·have hjk : k < j := by
           rcases Nat.lt_or_eq_of_le hkj with h | h
           ·exact h
           ·subst h; exact absurd d10 hk47
          rw [d10,skip_out] at hr1
          have hr2 : Hid (j + skipN false (s.toList.drop j) = N) := Lib.hid (by rw [drop_get s j hqj,d10]; exact hr1)
          have hi3 := fun w => idx_str s .i64 (j : Int) j rfl hqj w
          rw [d10] at hi3
          simp only [nat32.2.2.1] at hi3
          clear hr1 d10 hk47
          go_wp2
          go_round
          case rel => exact ⟨j,rfl,hj,hr2⟩
          case measure => simp [intOf]; omega
         ·rw [skip_in _ d10] at hr1
          have hr2 : Hid (j + 1 + skipN true (s.toList.drop (j + 1)) = N) := Lib.hid (by omega)
          have f3 : ((s[j].toNat : Int) != 10) = true := (neb 10 (by omega) d10).2
          clear hr1 d10
          go_wp2
          go_round
          case rel => exact ⟨j + 1,by go_num,by omega,by omega,hr2⟩
          case measure => simp [intOf]; omega
        ·have hjk : k < j := by omega
         have hr2 : Hid (j + skipN false (s.toList.drop j) = N) := Lib.hid (by rw [← hr.out,drop_end s (by omega)]; rfl)
         clear hr
         go_wp2
         go_round
         case rel => exact ⟨j,rfl,hj,hr2⟩
         case measure => simp [intOf]; omega
      ·have f4 : ((d.toNat : Int) != 47) = true := (neb 47 (by omega) d47).2
       rw [skip_none _ hb (by rw [List.head?_cons]; simp [d47])] at hr0
       obtain rfl : k = N := by omega
       clear hr0 hd hb d47
       go_wp2
       go_ret
       exact ⟨rfl,rfl⟩
     ·rw [drop_end s (by omega),skip_none _ hb (by simp)] at hr0
      obtain rfl : k = N := by omega
      clear hr0 hb
      go_wp2
      go_ret
      exact ⟨rfl,rfl⟩
    ·have f4 : ((c.toNat : Int) != 47) = true := (neb 47 (by omega) h47).2
     rw [skip_none _ hb (by simp [h47])] at hr0
     obtain rfl : k = N := by omega
     clear hr0 hb h47
     by_cases hq1 : k + 1 < s.size
     ·have hz : decide ((s.size : Int) ≤ (k : Int) + 1) = false := by simp; omega
      go_wp2
      go_ret
      exact ⟨rfl,rfl⟩
     ·have hz : decide ((s.size : Int) ≤ (k : Int) + 1) = true := by simp; omega
      go_wp2
      go_ret
      exact ⟨rfl,rfl⟩
  ·have hr2 : k = N := by have := hr.out; rw [drop_end s (by omega)] at this; exact this
   subst hr2
   clear hr
   go_wp2
   go_ret
   exact ⟨rfl,rfl⟩

def firstAt (c : UInt8) : Txt → Nat
 | [] => 0
 | x :: r => if x = c then 0 else firstAt c r + 1
theorem firstAt_le (c : UInt8) : ∀ l : Txt,firstAt c l ≤ l.length
 | [] => Nat.le_refl _
 | x :: r => by
  have := firstAt_le c r
  unfold firstAt
  split
  ·exact Nat.zero_le _
  ·simp; omega
theorem first_index (c : UInt8) : ∀ l,Lib.indexByte l c = if firstAt c l < l.length then (firstAt c l : Int) else -1
 | [] => rfl
 | x :: r => by
  have ih := first_index c r
  unfold Lib.indexByte firstAt
  by_cases h : x = c
  ·simp [h]
  ·have hb : (x == c) = false := by simpa using h
   rw [hb,if_neg h,ih]
   by_cases h2 : firstAt c r < r.length
   ·have e : ((firstAt c r : Int) == -1) = false := by simp
    simp only [h2,if_true,List.length_cons,Nat.add_lt_add_iff_right,e,Bool.false_eq_true,if_false]
    omega
   ·simp [h2]
def cutL (c : UInt8) (l : List UInt8) : List UInt8 := if firstAt c l < l.length then l.take (firstAt c l) else l
def cutR (c : UInt8) (l : List UInt8) : List UInt8 := if firstAt c l < l.length then l.drop (firstAt c l + 1) else []
theorem size1 (c : UInt8) : (⟨#[c]⟩ : ByteArray).size = 1 := rfl
theorem scut (s A B : ByteArray) (c : UInt8) (o : Nat) (w : World) (hs : s.size ≤ maxLen) (ho : o < s.size) (hi : Hid (Lib.indexByte s.data.toList c = (o : Int))) (hA : Hid (⟨(s.toList.take o).toArray⟩ = A)) (hB : Hid (⟨(s.toList.drop (o + 1)).toArray⟩ = B)) :
  Calls Tryz.prog 173 #[.string s,.string ⟨#[c]⟩] w fun e w' => (∃ b,e = .returned (.tuple #[.string A,.string B,.bool b])) ∧ Bel w w' := by
 unfold maxLen at hs
 have sl := fun w => cutH s o (o : Int) rfl (by omega) w
 have sr := fun w => cutE s (o + 1) ((o : Int) + 1) (by omega) (by omega) w
 rw [hA.out] at sl
 rw [hB.out] at sr
 have h1 := size1 c
 go_enter Tryz.func173,Tryz.ntmps173
 go_wp2_with fail
 refine (Tryz.stringslite_Index_one s c _).mono ?_
 rintro e w1 ⟨rfl,rfl⟩
 rw [hi.out]
 go_wp2_with fail
 have a1 : IntKind.i64.wrap ((o : Int) + 1) = (o : Int) + 1 := by rw [IntKind.wrap_i64]; omega
 go_quiet (fail)
 go_wp2_with fail
 go_ret3
 exact ⟨⟨_,rfl⟩,(Bel.refl w1).drewN _⟩
theorem scut_no (s : ByteArray) (c : UInt8) (w : World) (hi : Hid (Lib.indexByte s.data.toList c = -1)) :
  Calls Tryz.prog 173 #[.string s,.string ⟨#[c]⟩] w fun e w' => (∃ b,e = .returned (.tuple #[.string s,.string ⟨#[]⟩,.bool b])) ∧ Bel w w' := by
 go_enter Tryz.func173,Tryz.ntmps173
 go_wp2_with fail
 refine (Tryz.stringslite_Index_one s c _).mono ?_
 rintro e w1 ⟨rfl,rfl⟩
 rw [hi.out]
 go_wp2_with fail
 go_ret3
 exact ⟨⟨_,rfl⟩,Bel.refl _⟩
theorem cut_up (s A B : ByteArray) (c : UInt8) (w : World) (h : Hid (∀ W,Calls Tryz.prog 173 #[.string s,.string ⟨#[c]⟩] W fun e w' => (∃ b,e = .returned (.tuple #[.string A,.string B,.bool b])) ∧ Bel W w')) :
  Calls Tryz.prog 113 #[.string s,.string ⟨#[c]⟩] w fun e w' => (∃ b,e = .returned (.tuple #[.string A,.string B,.bool b])) ∧ Bel w w' := by
 go_enter Tryz.func113,Tryz.ntmps113
 go_wp2_with fail
 refine (h.out _).mono ?_
 rintro e w1 ⟨⟨b,rfl⟩,g1⟩
 go_wp2_with fail
 go_ret3
 exact ⟨⟨_,rfl⟩,g1⟩
theorem cut_any (s A B : ByteArray) (c : UInt8) (hs : s.size ≤ maxLen) (hA : A.toList = cutL c s.toList) (hB : B.toList = cutR c s.toList) (w : World) :
  Calls Tryz.prog 113 #[.string s,.string ⟨#[c]⟩] w fun e w' => (∃ b,e = .returned (.tuple #[.string A,.string B,.bool b])) ∧ Bel w w' := by
 have hi := first_index c s.data.toList
 have eA : (⟨A.toList.toArray⟩ : ByteArray) = A := by rw [toL]
 have eB : (⟨B.toList.toArray⟩ : ByteArray) = B := by rw [toL]
 have eS : (⟨s.toList.toArray⟩ : ByteArray) = s := by rw [toL]
 rw [← toL,toL_len] at hi
 unfold cutL at hA
 unfold cutR at hB
 rw [toL_len] at hA hB
 refine cut_up s A B c w (Lib.hid fun W => ?_)
 by_cases h : firstAt c s.toList < s.size
 ·rw [if_pos h] at hi hA hB
  exact scut s A B c _ W hs h (Lib.hid (by rw [← toL]; exact hi)) (Lib.hid (by rw [← hA,eA])) (Lib.hid (by rw [← hB,eB]))
 ·rw [if_neg h] at hi hA hB
  obtain rfl : A = s := by rw [← eA,hA,eS]
  obtain rfl : B = ⟨#[]⟩ := by rw [← eB,hB]
  exact scut_no A c W (Lib.hid (by rw [← toL]; exact hi))
theorem cutL_len (l : Txt) : (cutL 10 l).length = firstAt 10 l := by
 have := firstAt_le 10 l
 unfold cutL
 split
 ·rw [List.length_take]; omega
 ·omega
theorem skip_line : ∀ l : Txt,skipN true l = firstAt 10 l + skipN false (l.drop (firstAt 10 l))
 | [] => rfl
 | c :: r => by
  unfold firstAt
  by_cases h : c = 10
  ·subst h
   rw [if_pos rfl,List.drop_zero,skip_out,Nat.zero_add]
  ·rw [if_neg h,skip_in r h,List.drop_succ_cons,skip_line r]
   omega
theorem note_prefix (c : UInt8) (r : Txt) : Lib.hasPrefix (c :: r) [47,47] = (c == 47 && r.head? == some 47) := by
 unfold Lib.hasPrefix
 cases r with
 | nil => simp [List.isPrefixOf]
 | cons d q =>
  simp only [List.isPrefixOf,List.head?_cons,Bool.and_true]
  rw [Bool.eq_iff_iff]
  simp
  constructor <;> (rintro ⟨rfl,rfl⟩; exact ⟨rfl,rfl⟩)
theorem one_prefix (b c : UInt8) (r : Txt) : Lib.hasPrefix (c :: r) [b] = (b == c) := by
 unfold Lib.hasPrefix
 simp [List.isPrefixOf]
theorem kind_not_blank {c : UInt8} (h : blankB c = false) : kindI c ≠ 1 := by
 unfold kindI
 rw [h]
 simp only [Bool.false_eq_true,if_false]
 repeat' split
 all_goals decide
theorem pre_any (s p : ByteArray) (b : Bool) (h : Lib.hasPrefix s.data.toList p.data.toList = b) (w : World) :
  Calls Tryz.prog 112 #[.string s,.string p] w fun e w' => e = .returned (.bool b) ∧ w = w' := by
 refine (Tryz.strings_HasPrefix s p w).mono fun e w' ⟨he,hw⟩ => ⟨by rw [he,h],hw.symm⟩
theorem ignored_any (s : ByteArray) (hs : s.size ≤ maxLen) (w : World) :
  Calls Tryz.prog 65 #[.string s] w fun e w' => e = .returned (.int .i64 (skipN false s.toList : Int)) ∧ Bel w w' := by
 have hm := hs
 unfold maxLen at hs
 obtain ⟨N,hN0⟩ : ∃ N,skipN false s.toList = N := ⟨_,rfl⟩
 have hN : Hid (0 + skipN false (s.toList.drop 0) = N) := Lib.hid (by rw [List.drop_zero,Nat.zero_add]; exact hN0)
 rw [hN0]
 clear hN0
 go_enter Tryz.func65,Tryz.ntmps65
 go_wp2
 go_loopw [3,4,5,6] (fun i _ _ _ wr => ∃ k : Nat,i = .int .i64 (k : Int) ∧ k ≤ s.size ∧ Hid (k + skipN false (s.toList.drop k) = N) ∧ Bel w wr) (fun i _ _ _ _ => s.size - (intOf i).toNat)
 case atStart => exact ⟨0,rfl,Nat.zero_le _,hN,Bel.refl _⟩
 case round =>
  obtain ⟨k,rfl,hk,hr,G⟩ := hrel
  clear hN
  by_cases hq : k < s.size
  ·have hr0 := hr.out
   have hd := drop_get s k hq
   rw [hd] at hr0
   by_cases hb : blankB s[k] = true
   ·rw [skip_blank _ hb] at hr0
    have hr2 : Hid (k + 1 + skipN false (s.toList.drop (k + 1)) = N) := Lib.hid (by omega)
    have H := Lib.hid (kind_blank hb)
    clear hr0 hr hb hd
    go_wp2_with (go_at_call 111; refine (kind_at _ _).mono ?_; rintro e w' ⟨rfl,rfl⟩; rw [H.out])
    go_roundw
    case rel => exact ⟨k + 1,by go_num,by omega,hr2,G⟩
    case measure => simp [intOf]; omega
   ·rw [Bool.not_eq_true] at hb
    obtain ⟨K,hK⟩ : ∃ K,kindI s[k] = K := ⟨_,rfl⟩
    have n1 : (K == 1) = false := by have := kind_not_blank hb; rw [hK] at this; simpa using this
    have H := Lib.hid hK
    have sl := fun w => cutE s k (k : Int) rfl (by omega) w
    obtain ⟨T,hT⟩ : ∃ T : ByteArray,⟨(s.toList.drop k).toArray⟩ = T := ⟨_,rfl⟩
    rw [hT] at sl
    have hTl : T.toList = s.toList.drop k := by rw [← hT,tl]
    have hTs : T.size ≤ maxLen := by rw [← toL_len,hTl,List.length_drop,toL_len]; unfold maxLen; omega
    have hp := note_prefix s[k] (s.toList.drop (k + 1))
    rw [← hd,← hTl,toL] at hp
    by_cases h2 : (s[k] == 47 && (s.toList.drop (k + 1)).head? == some 47) = true
    ·rw [h2] at hp
     have HP := Lib.hid (fun w => pre_any T ⟨#[47,47]⟩ true hp w)
     have hf := firstAt_le 10 (s.toList.drop k)
     rw [List.length_drop,toL_len] at hf
     obtain ⟨A,hA⟩ : ∃ A : ByteArray,A.toList = cutL 10 T.toList := ⟨⟨(cutL 10 T.toList).toArray⟩,tl _⟩
     obtain ⟨B,hB⟩ : ∃ B : ByteArray,B.toList = cutR 10 T.toList := ⟨⟨(cutR 10 T.toList).toArray⟩,tl _⟩
     have HC := Lib.hid (fun w => cut_any T A B 10 hTs hA hB w)
     have hAs : A.size = firstAt 10 (s.toList.drop k) := by rw [← toL_len,hA,cutL_len,hTl]
     have hr2 : Hid (k + A.size + skipN false (s.toList.drop (k + A.size)) = N) := Lib.hid (by
      have e1 : skipN false (s.toList.drop k) = skipN true (s.toList.drop k) := by
       rw [hd]
       rw [Bool.and_eq_true,beq_iff_eq,beq_iff_eq] at h2
       rw [h2.1]
       cases hx : s.toList.drop (k + 1) with
       | nil => rw [hx] at h2; cases h2.2
       | cons d q => rw [hx] at h2; obtain rfl := Option.some.inj h2.2; rfl
      rw [← hr.out,e1,skip_line,← hAs,List.drop_drop]; omega)
     rw [← hAs] at hf
     have hsz : 0 < A.size := by
      rw [hAs,hd]
      rw [Bool.and_eq_true,beq_iff_eq] at h2
      rw [h2.1]
      unfold firstAt
      rw [if_neg (by decide)]; omega
     clear hr0 hr hb hd hT hTl hTs hp h2 hA hB hAs hK
     go_wp2_with (first | (go_at_call 111; refine (kind_at _ _).mono ?_; rintro e w' ⟨rfl,rfl⟩; rw [H.out]) | (go_at_call 112; refine (HP.out _).mono ?_; rintro e w' ⟨rfl,rfl⟩) | (go_at_call 113; refine (HC.out _).mono ?_; rintro e w' ⟨⟨b,rfl⟩,g⟩; replace G := Bel.trans G g; clear g))
     go_roundw
     case rel => exact ⟨k + A.size,by go_num,by omega,hr2,G⟩
     case measure => simp [intOf]; omega
    ·rw [Bool.not_eq_true] at h2
     rw [h2] at hp
     have HP := Lib.hid (fun w => pre_any T ⟨#[47,47]⟩ false hp w)
     rw [skip_none _ hb h2] at hr0
     obtain rfl : k = N := by omega
     clear hr0 hr hb hd hT hTl hTs hp h2 hK
     go_wp2_with (first | (go_at_call 111; refine (kind_at _ _).mono ?_; rintro e w' ⟨rfl,rfl⟩; rw [H.out]) | (go_at_call 112; refine (HP.out _).mono ?_; rintro e w' ⟨rfl,rfl⟩))
     go_ret
     exact ⟨rfl,G⟩
  ·have hr2 : k = N := by have := hr.out; rw [drop_end s (by omega)] at this; exact this
   subst hr2
   clear hr
   go_wp2
   go_ret
   exact ⟨rfl,G⟩
def headIs (p : UInt8 → Bool) : Txt → Bool
 | [] => false
 | d :: _ => p d
def escB (d : UInt8) : Bool := d == 34 || d == 92
theorem pre_head (b : UInt8) (l : Txt) : Lib.hasPrefix l [b] = headIs (· == b) l := by
 cases l with
 | nil => rfl
 | cons d q => rw [one_prefix]; show (b == d) = (d == b); rw [Bool.eq_iff_iff]; simp; exact eq_comm
theorem head_or (l : Txt) : headIs escB l = (headIs (· == 34) l || headIs (· == 92) l) := by cases l <;> rfl
theorem esc_any (T : ByteArray) (b : Bool) (hT : headIs escB T.toList = b) (w : World) :
  Calls Tryz.prog 177 #[.string T] w fun e w' => e = .returned (.bool b) ∧ w = w' := by
 subst hT
 have h34 := pre_head 34 T.data.toList
 have h92 := pre_head 92 T.data.toList
 rw [head_or,toL]
 generalize headIs (· == 34) T.data.toList = b1 at h34 ⊢
 generalize headIs (· == 92) T.data.toList = b2 at h92 ⊢
 have H1 := Lib.hid (fun w => pre_any T ⟨#[34]⟩ b1 h34 w)
 have H2 := Lib.hid (fun w => pre_any T ⟨#[92]⟩ b2 h92 w)
 clear h34 h92
 cases b1 <;> cases b2
 all_goals
  go_enter Tryz.func177,Tryz.ntmps177
  go_wp2_with (go_at_call 112; first | ((with_reducible refine (H1.out _).mono ?_); rintro e w' ⟨rfl,rfl⟩) | ((with_reducible refine (H2.out _).mono ?_); rintro e w' ⟨rfl,rfl⟩))
  go_ret
  exact ⟨rfl,rfl⟩

def TkC (w : World) (g : Nat) (k : Int) (s : ByteArray) (i a : Int) : Prop := w.cell? ⟨g,0,none⟩ = some (.int .i64 k) ∧ w.cell? ⟨g,1,none⟩ = some (.string s) ∧ w.cell? ⟨g,2,none⟩ = some (.int .i64 i) ∧ w.cell? ⟨g,3,none⟩ = some (.int .i64 a) ∧ w.frozen? ⟨g,0,none⟩ = false ∧ w.frozen? ⟨g,1,none⟩ = false ∧ w.frozen? ⟨g,2,none⟩ = false ∧ w.frozen? ⟨g,3,none⟩ = false
theorem TkC.on {w w' : World} {g : Nat} {k i a : Int} {s : ByteArray} (h : TkC w g k s i a) (b : Bel w w') : TkC w' g k s i a := by
 obtain ⟨h1,h2,h3,h4,f1,f2,f3,f4⟩ := h
 exact ⟨b.cell h1,b.cell h2,b.cell h3,b.cell h4,(Below.frozen (p := ⟨g,0,none⟩) b (cell_lt h1)).trans f1,(Below.frozen (p := ⟨g,1,none⟩) b (cell_lt h2)).trans f2,(Below.frozen (p := ⟨g,2,none⟩) b (cell_lt h3)).trans f3,(Below.frozen (p := ⟨g,3,none⟩) b (cell_lt h4)).trans f4⟩
theorem TkC.new (w : World) (k i a : Int) (s : ByteArray) (t : TypeId) : TkC (w.alloc (.cells #[.int .i64 k,.string s,.int .i64 i,.int .i64 a] t)) w.heap.size k s i a :=
 ⟨by rw [World.cell?_alloc_new]; rfl,by rw [World.cell?_alloc_new]; rfl,by rw [World.cell?_alloc_new]; rfl,by rw [World.cell?_alloc_new]; rfl,World.frozen?_alloc_new _ _ _ _,World.frozen?_alloc_new _ _ _ _,World.frozen?_alloc_new _ _ _ _,World.frozen?_alloc_new _ _ _ _⟩
def rdV (R : Rd) : Ending := .returned (.tuple #[.agg #[.int .i64 R.k,.string ⟨R.s.toArray⟩,.int .i64 R.i,.int .i64 0],.int .i64 R.n,.int .i64 R.e])
theorem run_size (s : ByteArray) : (⟨(s.toList.take (runN s.toList)).toArray⟩ : ByteArray).size = runN s.toList := by
 rw [← toL_len,tl,List.length_take,Nat.min_eq_left (run_le _)]
theorem word_any (s : ByteArray) (hs : s.size ≤ maxLen) (w : World) :
  Calls Tryz.prog 114 #[.string s] w fun e w' => e = rdV (if 24 < runN s.toList then bad 0 3 else ⟨if wordB (s.toList.take (runN s.toList)) then 2 else 1,s.toList.take (runN s.toList),0,runN s.toList,0⟩) ∧ Bel w w' := by
 have HR := Lib.hid (fun w => run_any s hs w)
 have hz := run_size s
 obtain ⟨T,hT⟩ : ∃ T : ByteArray,⟨(s.toList.take (runN s.toList)).toArray⟩ = T := ⟨_,rfl⟩
 have hTl : s.toList.take (runN s.toList) = T.toList := by rw [← hT]; exact (tl _).symm
 rw [hT] at HR hz
 rw [hTl]
 have hle := run_le s.toList
 rw [toL_len] at hle
 clear hT hTl
 generalize runN s.toList = N at *
 subst hz
 unfold maxLen at hs
 have hb := str_back T
 have HK := Lib.hid (fun w => keyword_any T w)
 by_cases h1 : 24 < T.size
 ·rw [if_pos h1]
  go_enter Tryz.func114,Tryz.ntmps114
  go_wp2_with (go_at_call 174; refine (HR.out _).mono ?_; rintro e w' ⟨rfl,rfl⟩)
  exact bodyPost_ret (v := .tuple #[.agg #[.int .i64 0,.string ⟨#[]⟩,.int .i64 0,.int .i64 0],.int .i64 0,.int .i64 3]) (by simp [results,Tryz.results114,go_sem]) rfl ⟨rfl,(Bel.alloc (Bel.refl _) _)⟩
 ·rw [if_neg h1]
  unfold rdV
  dsimp only
  rw [hb]
  generalize wordB T.toList = b at HK ⊢
  cases b
  ·go_enter Tryz.func114,Tryz.ntmps114
   go_wp2_with (first | (go_at_call 174; refine (HR.out _).mono ?_; rintro e w' ⟨rfl,rfl⟩) | (go_at_call 175; refine (HK.out _).mono ?_; rintro e w' ⟨rfl,rfl⟩))
   exact bodyPost_ret (v := .tuple #[.agg #[.int .i64 1,.string T,.int .i64 0,.int .i64 0],.int .i64 T.size,.int .i64 0]) (by simp [results,Tryz.results114,go_sem]) rfl ⟨rfl,(Bel.alloc (Bel.refl _) _)⟩
  ·go_enter Tryz.func114,Tryz.ntmps114
   go_wp2_with (first | (go_at_call 174; refine (HR.out _).mono ?_; rintro e w' ⟨rfl,rfl⟩) | (go_at_call 175; refine (HK.out _).mono ?_; rintro e w' ⟨rfl,rfl⟩))
   exact bodyPost_ret (v := .tuple #[.agg #[.int .i64 2,.string T,.int .i64 0,.int .i64 0],.int .i64 T.size,.int .i64 0]) (by simp [results,Tryz.results114,go_sem]) rfl ⟨rfl,(Bel.alloc (Bel.refl _) _)⟩
theorem str_ne {T : ByteArray} (h : 0 < T.size) : T.toList.isEmpty = false ∧ (T.toList = []) = False := by
 have hl := toL_len T
 constructor
 ·cases hs : T.toList with
  | nil => rw [hs] at hl; simp at hl; omega
  | cons c r => rfl
 ·apply eq_false
  intro hs
  rw [hs] at hl
  simp at hl
  omega
theorem empty_str {s : ByteArray} (h : s.size = 0) : s = ⟨#[]⟩ := by
 cases s with
 | mk d =>
  have : d.size = 0 := h
  rw [Array.eq_empty_of_size_eq_zero this]
theorem host_any (s : ByteArray) (hs : s.size ≤ maxLen) (r : Txt) (hr : s.toList = 64 :: r) (w : World) :
  Calls Tryz.prog 117 #[.string s] w fun e w' => e = rdV (if runN r = 0 then bad 0 1 else if 24 < runN r then bad 0 3 else ⟨6,r.take (runN r),0,runN r + 1,0⟩) ∧ Bel w w' := by
 have h1 : 1 ≤ s.size := by rw [← toL_len,hr]; simp
 have sl := fun w => cutE s 1 1 rfl h1 w
 obtain ⟨U,hU⟩ : ∃ U : ByteArray,⟨(s.toList.drop 1).toArray⟩ = U := ⟨_,rfl⟩
 rw [hU] at sl
 have hUl : U.toList = r := by rw [← hU,hr]; exact tl _
 have hUs : U.size ≤ maxLen := by rw [← toL_len,hUl]; have := toL_len s; rw [hr] at this; simp at this; unfold maxLen at hs ⊢; omega
 have HR := Lib.hid (fun w => run_any U hUs w)
 have hz := run_size U
 rw [hUl] at HR hz
 obtain ⟨T,hT⟩ : ∃ T : ByteArray,⟨(r.take (runN r)).toArray⟩ = T := ⟨_,rfl⟩
 have hTl : r.take (runN r) = T.toList := by rw [← hT]; exact (tl _).symm
 rw [hT] at HR hz
 rw [hTl]
 have hle := run_le r
 have hrl : r.length + 1 = s.size := by rw [← toL_len,hr]; rfl
 clear hT hTl hU hUl hUs hr
 generalize runN r = N at *
 subst hz
 unfold maxLen at hs
 have hb := str_back T
 by_cases h0 : T.size = 0
 ·rw [if_pos h0]
  obtain rfl := empty_str h0
  clear h0 hb
  go_enter Tryz.func117,Tryz.ntmps117
  go_wp2_with (go_at_call 174; refine (HR.out _).mono ?_; rintro e w' ⟨rfl,rfl⟩)
  exact bodyPost_ret (v := .tuple #[.agg #[.int .i64 0,.string ⟨#[]⟩,.int .i64 0,.int .i64 0],.int .i64 0,.int .i64 1]) (by simp [results,Tryz.results117,go_sem]) rfl ⟨rfl,(Bel.alloc (Bel.refl _) _)⟩
 rw [if_neg h0]
 obtain ⟨hne,hne2⟩ := str_ne (T := T) (by omega)
 by_cases h1 : 24 < T.size
 ·rw [if_pos h1]
  go_enter Tryz.func117,Tryz.ntmps117
  go_wp2_with (go_at_call 174; refine (HR.out _).mono ?_; rintro e w' ⟨rfl,rfl⟩)
  exact bodyPost_ret (v := .tuple #[.agg #[.int .i64 0,.string ⟨#[]⟩,.int .i64 0,.int .i64 0],.int .i64 0,.int .i64 3]) (by simp [results,Tryz.results117,go_sem]) rfl ⟨rfl,(Bel.alloc (Bel.refl _) _)⟩
 ·rw [if_neg h1]
  unfold rdV
  dsimp only
  rw [hb,Int.natCast_add]
  clear hb
  go_enter Tryz.func117,Tryz.ntmps117
  go_wp2_with (go_at_call 174; refine (HR.out _).mono ?_; rintro e w' ⟨rfl,rfl⟩)
  exact bodyPost_ret (v := .tuple #[.agg #[.int .i64 6,.string T,.int .i64 0,.int .i64 0],.int .i64 (T.size + 1),.int .i64 0]) (by simp [results,Tryz.results117,go_sem]; omega) rfl ⟨rfl,(Bel.alloc (Bel.refl _) _)⟩
theorem integer_any (s : ByteArray) (hs : s.size ≤ maxLen) (w : World) :
  Calls Tryz.prog 115 #[.string s] w fun e w' => e = rdV (if Num.parE (s.toList.take (spanN digB s.toList)) = 0 then ⟨3,[],Num.parV (s.toList.take (spanN digB s.toList)),spanN digB s.toList,0⟩ else bad 0 (Num.parE (s.toList.take (spanN digB s.toList)))) ∧ Bel w w' := by
 unfold maxLen at hs
 have hN : Hid (0 + spanN digB (s.toList.drop 0) = spanN digB s.toList) := Lib.hid (by rw [List.drop_zero,Nat.zero_add])
 have hle := span_le digB s.toList
 rw [toL_len] at hle
 generalize spanN digB s.toList = N at hN hle ⊢
 have sl := fun w => cutH s N (N : Int) rfl hle w
 obtain ⟨T,hT⟩ : ∃ T : ByteArray,⟨(s.toList.take N).toArray⟩ = T := ⟨_,rfl⟩
 have hTl : s.toList.take N = T.toList := by rw [← hT]; exact (tl _).symm
 have hTs : T.size ≤ maxLen := by rw [← toL_len,← hTl,List.length_take,toL_len]; unfold maxLen; omega
 rw [hT] at sl
 rw [hTl]
 clear hTl hT
 have HP := Lib.hid (fun w => Num.parse_any T hTs w)
 unfold Num.pair at HP
 generalize Num.parV T.toList = V at *
 generalize Num.parE T.toList = E at *
 have hZ : Hid (rdV (if E = 0 then ⟨3,[],V,N,0⟩ else bad 0 E) = if E = 0 then .returned (.tuple #[.agg #[.int .i64 3,.string ⟨#[]⟩,.int .i64 V,.int .i64 0],.int .i64 N,.int .i64 0]) else .returned (.tuple #[.agg #[.int .i64 0,.string ⟨#[]⟩,.int .i64 0,.int .i64 0],.int .i64 0,.int .i64 E])) := Lib.hid (by split <;> rfl)
 generalize rdV (if E = 0 then ⟨3,[],V,N,0⟩ else bad 0 E) = Z at hZ ⊢
 go_enter Tryz.func115,Tryz.ntmps115
 go_wp2
 go_loop [5] (fun i => ∃ k : Nat,i = .int .i64 (k : Int) ∧ k ≤ s.size ∧ Hid (k + spanN digB (s.toList.drop k) = N)) (fun i => s.size - (intOf i).toNat)
 case atStart => exact ⟨0,rfl,Nat.zero_le _,hN⟩
 case round =>
  obtain ⟨k,rfl,hk,hr⟩ := hrel
  clear hN
  by_cases hq : k < s.size ∧ digB (s.toList.getD k 0) = true
  ·obtain ⟨hq,hd⟩ := hq
   rw [List.getD_eq_getElem?_getD,List.getElem?_eq_getElem (by rw [toL_len]; exact hq),Option.getD_some,toL_get s k hq] at hd
   have hst := (span_step digB s k hq).symm.trans hr.out
   have hr2 : Hid (k + 1 + spanN digB (s.toList.drop (k + 1)) = N) := Lib.hid (by rw [← hst,if_pos hd])
   have H := Lib.hid (kind_dig hd)
   clear hd hst hr
   go_wp2_with (go_at_call 111; refine (kind_at _ _).mono ?_; rintro e w' ⟨rfl,rfl⟩; rw [H.out])
   go_round
   case rel => exact ⟨k + 1,by go_num,by omega,hr2⟩
   case measure => simp [intOf]; omega
  ·have hr2 : k = N := by
    by_cases hq2 : k < s.size
    ·have hd : ¬ digB s[k] = true := fun h => hq ⟨hq2,by rw [List.getD_eq_getElem?_getD,List.getElem?_eq_getElem (by rw [toL_len]; exact hq2),Option.getD_some,toL_get s k hq2]; exact h⟩
     have hst := (span_step digB s k hq2).symm.trans hr.out
     rw [if_neg hd] at hst
     exact hst
    ·exact (span_stop digB s k hq2).symm.trans hr.out
   by_cases hq2 : k < s.size
   ·have hd : ¬ digB s[k] = true := fun h => hq ⟨hq2,by rw [List.getD_eq_getElem?_getD,List.getElem?_eq_getElem (by rw [toL_len]; exact hq2),Option.getD_some,toL_get s k hq2]; exact h⟩
    obtain ⟨K,hK⟩ : ∃ K,kindI s[k] = K := ⟨_,rfl⟩
    have n3 : (K == 3) = false := by
     rw [Bool.not_eq_true] at hd
     rw [← hK]
     unfold kindI
     rw [hd]
     simp only [Bool.false_eq_true,if_false]
     repeat' split
     all_goals decide
    have H := Lib.hid hK
    subst hr2
    clear hr hd hK hq
    by_cases hE : E = 0
    ·subst hE
     have hZ2 := hZ.out
     rw [if_pos rfl] at hZ2
     subst hZ2
     clear hZ
     go_wp2_with (first | (go_at_call 111; refine (kind_at _ _).mono ?_; rintro e w' ⟨rfl,rfl⟩; rw [H.out]) | (go_at_call 176; refine (HP.out _).mono ?_; rintro e w' ⟨rfl,rfl⟩))
     exact bodyPost_ret (v := .tuple #[.agg #[.int .i64 3,.string ⟨#[]⟩,.int .i64 V,.int .i64 0],.int .i64 k,.int .i64 0]) (by simp [results,Tryz.results115,go_sem]) rfl ⟨rfl,(Bel.alloc (Bel.refl _) _)⟩
    ·have hZ2 := hZ.out
     rw [if_neg hE] at hZ2
     subst hZ2
     have hE2 : (E != 0) = true := by simpa using hE
     clear hZ hE
     go_wp2_with (first | (go_at_call 111; refine (kind_at _ _).mono ?_; rintro e w' ⟨rfl,rfl⟩; rw [H.out]) | (go_at_call 176; refine (HP.out _).mono ?_; rintro e w' ⟨rfl,rfl⟩))
     exact bodyPost_ret (v := .tuple #[.agg #[.int .i64 0,.string ⟨#[]⟩,.int .i64 0,.int .i64 0],.int .i64 0,.int .i64 E]) (by simp [results,Tryz.results115,go_sem]) rfl ⟨rfl,(Bel.alloc (Bel.refl _) _)⟩
   ·subst hr2
    clear hr hq
    by_cases hE : E = 0
    ·subst hE
     have hZ2 := hZ.out
     rw [if_pos rfl] at hZ2
     subst hZ2
     clear hZ
     go_wp2_with ((go_at_call 176; refine (HP.out _).mono ?_; rintro e w' ⟨rfl,rfl⟩))
     exact bodyPost_ret (v := .tuple #[.agg #[.int .i64 3,.string ⟨#[]⟩,.int .i64 V,.int .i64 0],.int .i64 k,.int .i64 0]) (by simp [results,Tryz.results115,go_sem]) rfl ⟨rfl,(Bel.alloc (Bel.refl _) _)⟩
    ·have hZ2 := hZ.out
     rw [if_neg hE] at hZ2
     subst hZ2
     have hE2 : (E != 0) = true := by simpa using hE
     clear hZ hE
     go_wp2_with ((go_at_call 176; refine (HP.out _).mono ?_; rintro e w' ⟨rfl,rfl⟩))
     exact bodyPost_ret (v := .tuple #[.agg #[.int .i64 0,.string ⟨#[]⟩,.int .i64 0,.int .i64 0],.int .i64 0,.int .i64 E]) (by simp [results,Tryz.results115,go_sem]) rfl ⟨rfl,(Bel.alloc (Bel.refl _) _)⟩

def signsA : ByteArray := ⟨#[40,41,123,125,91,93,44,59,58,61,60,62,43,45,42,47,37]⟩
theorem sym_two {s : Txt} (h : s.length = 2) : symB s = (s == [61,61] || (s == [33,61] || (s == [60,61] || s == [62,61]))) := by
 match s,h with
 | [c,d],_ => rw [Bool.eq_iff_iff]; simp [symB,twos]
theorem sym_not_two {s : Txt} (h : s.length ≠ 2) : symB s = signs.any (fun c => s == [c]) := by
 match s,h with
 | [],_ => rfl
 | [c],_ => rw [Bool.eq_iff_iff]; simp [symB,signs]
 | [c,d],h => exact absurd rfl h
 | c :: d :: x :: r,_ => rw [Bool.eq_iff_iff]; simp [symB]
theorem signs_get (k : Nat) (h : k < 17) : ((signsA.toList.drop k).take (k + 1 - k)) = [signs.getD k 0] := by
 have hs : signsA.toList = signs := tl _
 have hl : k < signs.length := h
 rw [hs,Nat.add_sub_cancel_left,List.drop_eq_getElem_cons hl,List.getD_eq_getElem?_getD,List.getElem?_eq_getElem hl]
 rfl
theorem any_step (p : UInt8 → Bool) (k : Nat) (h : k < 17) : (signs.drop k).any p = (p (signs.getD k 0) || (signs.drop (k + 1)).any p) := by
 have hl : k < signs.length := h
 rw [List.drop_eq_getElem_cons hl,List.any_cons,List.getD_eq_getElem?_getD,List.getElem?_eq_getElem hl]
 rfl
theorem rSymbol_any (s : ByteArray) (w : World) : Calls Tryz.prog 184 #[.string s] w fun e w' => e = .returned (.bool (symB s.toList)) ∧ w = w' := by
 by_cases h2 : s.size = 2
 ·have hW := Lib.hid (sym_two (by rw [toL_len]; exact h2))
  have hb : ((s.size : Int) == 2) = true := by rw [h2]; rfl
  generalize symB s.toList = B at hW ⊢
  clear h2
  go_enter Tryz.func184,Tryz.ntmps184
  go_wp2
  all_goals
   go_ret
   refine ⟨?_,rfl⟩
   rw [hW.out]
   clear hW
   simp_all <;> simp only [Bool.or_assoc]
 ·have hW : Hid ((signs.drop 0).any (fun c => s.toList == [c]) = symB s.toList) := Lib.hid (sym_not_two (by rw [toL_len]; exact h2)).symm
  have hb : ((s.size : Int) == 2) = false := by simp; omega
  generalize symB s.toList = B at hW ⊢
  clear h2
  go_enter Tryz.func184,Tryz.ntmps184
  go_wp2
  go_loop [4,24] (fun _ i => ∃ k : Nat,i = .int .i64 (k : Int) ∧ k ≤ 17 ∧ Hid ((signs.drop k).any (fun c => s.toList == [c]) = B)) (fun _ i => 17 - (intOf i).toNat)
  case atStart => exact ⟨0,rfl,Nat.zero_le _,hW⟩
  case round =>
   obtain ⟨k,rfl,hk,hr⟩ := hrel
   clear hW
   by_cases hq : k < 17
   ·have hr0 := hr.out
    rw [any_step _ k hq] at hr0
    have sl := fun w => cutS signsA k (k + 1) (k : Int) ((k : Int) + 1) rfl (by omega) (by omega) (show k + 1 ≤ 17 from hq) w
    rw [signs_get k hq] at sl
    obtain ⟨T,hT⟩ : ∃ T : ByteArray,⟨[signs.getD k 0].toArray⟩ = T := ⟨_,rfl⟩
    rw [hT] at sl
    have hTl : [signs.getD k 0] = T.toList := by rw [← hT]; exact (tl _).symm
    rw [hTl] at hr0
    unfold signsA at sl
    clear hT hTl hr
    cases hc : (s.toList == T.toList) with
    | true =>
     rw [hc,Bool.true_or] at hr0
     subst hr0
     go_wp2
     go_ret
     exact ⟨rfl,rfl⟩
    | false =>
     rw [hc,Bool.false_or] at hr0
     have hr2 := Lib.hid hr0
     clear hr0
     go_wp2
     go_round
     case rel => exact ⟨k + 1,by go_num,by omega,hr2⟩
     case measure => simp [intOf]; omega
   ·obtain rfl : k = 17 := by omega
    have hr0 := hr.out
    change false = B at hr0
    subst hr0
    clear hr
    go_wp2
    go_ret
    exact ⟨rfl,rfl⟩
theorem symN_two {c d : UInt8} {r : Txt} (h : symB [c,d] = true) : symN (c :: d :: r) = 2 := by show (if symB [c,d] then 2 else if symB [c] then 1 else 0) = 2; rw [if_pos h]
theorem symN_one {c d : UInt8} {r : Txt} (h : symB [c,d] = false) : symN (c :: d :: r) = if symB [c] then 1 else 0 := by show (if symB [c,d] then 2 else if symB [c] then 1 else 0) = _; rw [h]; rfl
theorem symN_end (c : UInt8) : symN [c] = if symB [c] then 1 else 0 := rfl
theorem rsym_any (s : ByteArray) (hs : s.size ≤ 1000000) (p : Nat) (hp : p < s.size) (w : World) :
  Calls Tryz.prog 131 #[.string s,.int .i64 (p : Int)] w fun e w' => e = .returned (.int .i64 ((p + symN (s.toList.drop p) : Nat) : Int)) ∧ w = w' := by
 have e0 := drop_get s p hp
 have s1 := fun w => cutS s p (p + 1) (p : Int) ((p : Int) + 1) rfl (by omega) (by omega) (by omega) w
 rw [Nat.add_sub_cancel_left,e0,List.take_succ_cons,List.take_zero] at s1
 obtain ⟨T,hT⟩ : ∃ T : ByteArray,⟨[s[p]].toArray⟩ = T := ⟨_,rfl⟩
 rw [hT] at s1
 have hTl : symB T.toList = symB [s[p]] := by rw [← hT,show (⟨[s[p]].toArray⟩ : ByteArray).toList = [s[p]] from tl _]
 have H1 := Lib.hid (fun w => rSymbol_any T w)
 rw [hTl] at H1
 by_cases h2 : p + 1 < s.size
 ·have e1 := drop_get s (p + 1) h2
  have s2 := fun w => cutS s p (p + 2) (p : Int) ((p : Int) + 2) rfl (by omega) (by omega) (by omega) w
  rw [Nat.add_sub_cancel_left,e0,e1,List.take_succ_cons,List.take_succ_cons,List.take_zero] at s2
  obtain ⟨U,hU⟩ : ∃ U : ByteArray,⟨[s[p],s[p + 1]].toArray⟩ = U := ⟨_,rfl⟩
  rw [hU] at s2
  have hUl : symB U.toList = symB [s[p],s[p + 1]] := by rw [← hU,show (⟨[s[p],s[p + 1]].toArray⟩ : ByteArray).toList = [s[p],s[p + 1]] from tl _]
  have H2 := Lib.hid (fun w => rSymbol_any U w)
  rw [hUl] at H2
  have hle : decide ((p : Int) + 2 ≤ (s.size : Int)) = true := by simp; omega
  cases hb2 : symB [s[p],s[p + 1]] with
  | true =>
   have hN : p + 2 = p + symN (s.toList.drop p) := by rw [e0,e1,symN_two hb2]
   rw [hb2] at H2
   rw [← hN]
   clear hN e0 e1 hT hTl hU hUl hb2
   go_enter Tryz.func131,Tryz.ntmps131
   go_wp2_with (go_at_call 184; refine (H2.out _).mono ?_; rintro e w' ⟨rfl,rfl⟩)
   go_ret
   exact ⟨rfl,rfl⟩
  | false =>
   cases hb1 : symB [s[p]] with
   | true =>
    have hN : p + 1 = p + symN (s.toList.drop p) := by rw [e0,e1,symN_one hb2,hb1]; rfl
    rw [hb2] at H2
    rw [hb1] at H1
    rw [← hN]
    clear hN e0 e1 hT hTl hU hUl hb2 hb1
    go_enter Tryz.func131,Tryz.ntmps131
    go_wp2_with (go_at_call 184; first | ((with_reducible refine (H2.out _).mono ?_); rintro e w' ⟨rfl,rfl⟩) | ((with_reducible refine (H1.out _).mono ?_); rintro e w' ⟨rfl,rfl⟩))
    go_ret
    exact ⟨rfl,rfl⟩
   | false =>
    have hN : p = p + symN (s.toList.drop p) := by rw [e0,e1,symN_one hb2,hb1]; rfl
    rw [hb2] at H2
    rw [hb1] at H1
    rw [← hN]
    clear hN e0 e1 hT hTl hU hUl hb2 hb1
    go_enter Tryz.func131,Tryz.ntmps131
    go_wp2_with (go_at_call 184; first | ((with_reducible refine (H2.out _).mono ?_); rintro e w' ⟨rfl,rfl⟩) | ((with_reducible refine (H1.out _).mono ?_); rintro e w' ⟨rfl,rfl⟩))
    go_ret
    exact ⟨rfl,rfl⟩
 ·have e1 := drop_end s (k := p + 1) (by omega)
  have hle : decide ((p : Int) + 2 ≤ (s.size : Int)) = false := by simp; omega
  cases hb1 : symB [s[p]] with
  | true =>
   have hN : p + 1 = p + symN (s.toList.drop p) := by rw [e0,e1,symN_end,hb1]; simp
   rw [hb1] at H1
   rw [← hN]
   clear hN e0 e1 hT hTl hb1
   go_enter Tryz.func131,Tryz.ntmps131
   go_wp2_with (go_at_call 184; ((with_reducible refine (H1.out _).mono ?_); rintro e w' ⟨rfl,rfl⟩))
   go_ret
   exact ⟨rfl,rfl⟩
  | false =>
   have hN : p = p + symN (s.toList.drop p) := by rw [e0,e1,symN_end,hb1]; simp
   rw [hb1] at H1
   rw [← hN]
   clear hN e0 e1 hT hTl hb1
   go_enter Tryz.func131,Tryz.ntmps131
   go_wp2_with (go_at_call 184; ((with_reducible refine (H1.out _).mono ?_); rintro e w' ⟨rfl,rfl⟩))
   go_ret
   exact ⟨rfl,rfl⟩
def symAt (l : Txt) : Nat → Nat
 | 0 => 0
 | k + 1 => if symB (l.take (k + 1)) then k + 1 else symAt l k
theorem symAt_all (l : Txt) (h : l ≠ []) : symAt l (min 2 l.length) = symN l := by
 cases l with
 | nil => exact absurd rfl h
 | cons c r =>
  cases r with
  | nil => rfl
  | cons d q =>
   rw [show min 2 (c :: d :: q).length = 2 by simp]
   show (if symB [c,d] then 2 else if symB [c] then 1 else 0) = _
   rfl
theorem sym_any (s : ByteArray) (hs : s.size ≤ maxLen) (h0 : 0 < s.size) (w : World) :
  Calls Tryz.prog 118 #[.string s] w fun e w' => e = rdV (if symN s.toList = 0 then bad 0 1 else ⟨5,s.toList.take (symN s.toList),0,symN s.toList,0⟩) ∧ Bel w w' := by
 unfold maxLen at hs
 have hN : Hid (symAt s.toList (min 2 s.size) = symN s.toList) := Lib.hid (by
  have := symAt_all s.toList (fun h => by have := toL_len s; rw [h] at this; simp at this; omega)
  rw [toL_len] at this
  exact this)
 generalize symN s.toList = N at hN ⊢
 obtain ⟨m,hm⟩ : ∃ m : Nat,min 2 s.size = m := ⟨_,rfl⟩
 have hm2 : (min 2 (s.size : Int)) = (m : Int) := by omega
 have hmle : m ≤ s.size ∧ m ≤ 2 := by omega
 rw [hm] at hN
 clear hm
 have hZ : Hid (rdV (if N = 0 then bad 0 1 else ⟨5,s.toList.take N,0,N,0⟩) = if N = 0 then .returned (.tuple #[.agg #[.int .i64 0,.string ⟨#[]⟩,.int .i64 0,.int .i64 0],.int .i64 0,.int .i64 1]) else .returned (.tuple #[.agg #[.int .i64 5,.string ⟨(s.toList.take N).toArray⟩,.int .i64 0,.int .i64 0],.int .i64 (N : Int),.int .i64 0])) := Lib.hid (by split <;> rfl)
 generalize rdV (if N = 0 then bad 0 1 else ⟨5,s.toList.take N,0,N,0⟩) = Z at hZ ⊢
 go_enter Tryz.func118,Tryz.ntmps118
 go_wp2
 go_loop [5] (fun i => ∃ k : Nat,i = .int .i64 (k : Int) ∧ k ≤ m ∧ Hid (symAt s.toList k = N)) (fun i => (intOf i).toNat)
 case atStart => exact ⟨m,rfl,Nat.le_refl _,hN⟩
 case round =>
  obtain ⟨k,rfl,hk,hr⟩ := hrel
  clear hN hm2
  cases k with
  | zero =>
   have hr0 := hr.out
   change 0 = N at hr0
   subst hr0
   have hZ2 := hZ.out
   rw [if_pos rfl] at hZ2
   subst hZ2
   clear hr hZ
   go_wp2
   exact bodyPost_ret (v := .tuple #[.agg #[.int .i64 0,.string ⟨#[]⟩,.int .i64 0,.int .i64 0],.int .i64 0,.int .i64 1]) (by simp [results,Tryz.results118,go_sem]) rfl ⟨rfl,(Bel.alloc (Bel.refl _) _)⟩
  | succ k =>
   have hr0 := hr.out
   rw [symAt] at hr0
   have sl := fun w => cutH s (k + 1) ((k : Int) + 1) (by omega) (by omega) w
   obtain ⟨T,hT⟩ : ∃ T : ByteArray,⟨(s.toList.take (k + 1)).toArray⟩ = T := ⟨_,rfl⟩
   rw [hT] at sl
   have hTl : s.toList.take (k + 1) = T.toList := by rw [← hT]; exact (tl _).symm
   rw [hTl] at hr0
   have hb := str_back T
   have HS := Lib.hid (fun w => symbol_any T w)
   rw [Int.natCast_add,show ((1 : Nat) : Int) = 1 from rfl]
   clear hr
   cases hB : symB T.toList with
   | true =>
    rw [hB,if_pos rfl] at hr0
    rw [hB] at HS
    subst hr0
    have hZ2 := hZ.out
    rw [if_neg (by omega),hTl,hb,Int.natCast_add,show ((1 : Nat) : Int) = 1 from rfl] at hZ2
    subst hZ2
    clear hTl hT hb hB hZ
    go_wp2_with (go_at_call 178; refine (HS.out _).mono ?_; rintro e w' ⟨rfl,rfl⟩)
    exact bodyPost_ret (v := .tuple #[.agg #[.int .i64 5,.string T,.int .i64 0,.int .i64 0],.int .i64 ((k : Int) + 1),.int .i64 0]) (by simp [results,Tryz.results118,go_sem]) rfl ⟨rfl,(Bel.alloc (Bel.refl _) _)⟩
   | false =>
    rw [hB,if_neg (by decide)] at hr0
    rw [hB] at HS
    have hr2 := Lib.hid hr0
    clear hTl hT hb hB hr0
    go_wp2_with (go_at_call 178; refine (HS.out _).mono ?_; rintro e w' ⟨rfl,rfl⟩)
    go_round
    case rel => exact ⟨k,by go_num,by omega,hr2⟩
    case measure => simp [intOf]
end Lex
end Go.Proofs.YtcapkeaedpabjaaGreatDoor
