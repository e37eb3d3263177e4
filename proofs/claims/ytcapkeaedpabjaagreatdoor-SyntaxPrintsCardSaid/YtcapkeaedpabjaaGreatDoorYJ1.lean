/-
  Layer 8, texts merged: SqA, SqG, SqB, SqH, SqC. For every argument within the bounds that each theorem names.
-/
import Derived.Test.YtcapkeaedpabjaaGreatDoorYG1
import Derived.Test.YtcapkeaedpabjaaGreatDoorYD4
import Derived.Test.YtcapkeaedpabjaaGreatDoorYG2
set_option maxRecDepth 100000
set_option maxHeartbeats 16000000

/-
 Layer 8, the reference: Text of any string; name, str, expression, statement, compares, binary.
-/
namespace Go.Proofs.YtcapkeaedpabjaaGreatDoor
open Go.RowKit Go.ChangeShapes Go.WideShapes
namespace Syn

theorem rtext_all (k i a : Int) (s : Txt) (hs : s.length ≤ 140737488355328) (hi : -9223372036854775808 ≤ i ∧ i ≤ 9223372036854775807) (w : World) :
  Calls Tryz.prog 145 #[.agg #[.int .i64 k,.string ⟨s.toArray⟩,.int .i64 i,.int .i64 a]] w fun e w' => e = .returned (.tuple #[.string ⟨(Lex.txtT ⟨k,s,i,a⟩).toArray⟩,.int .i64 (Lex.txtE ⟨k,s,i,a⟩)]) ∧ Bel w w' := by
 have := Lex.rtextT_wide k i a ⟨s.toArray⟩ hi (by show s.toArray.size ≤ _; simpa using hs) w
 rw [tl_list] at this
 exact this
theorem rname_any (s : Txt) (hs : s.length ≤ 140737488355328) (w : World) : Calls Tryz.prog 89 #[.string ⟨s.toArray⟩] w fun e w' => e = .returned (.bool (nameB s)) ∧ Bel w w' := by
 have HT := Lib.hid (fun W => rtext_all 1 0 0 s hs (by decide) W)
 have hE := txtE_ok (tkn 1 s 0)
 unfold nameB
 unfold tkn at hE ⊢
 generalize Lex.txtE ⟨1,s,0,0⟩ = E at *
 generalize (⟨(Lex.txtT ⟨1,s,0,0⟩).toArray⟩ : ByteArray) = R at *
 rw [← hE]
 clear hE
 go_enter Tryz.func89,Tryz.ntmps89
 go_wp2_with fail
 refine (HT.out _).mono ?_
 rintro e w' ⟨rfl,g⟩
 have G := Lib.hid g
 clear g
 go_wp2_with fail
 go_ret
 exact ⟨rfl,G.out⟩
theorem rstr_any (s : Txt) (hs : s.length ≤ 140737488355328) (w : World) : Calls Tryz.prog 146 #[.string ⟨s.toArray⟩] w fun e w' => e = .returned (.bool (strB s)) ∧ Bel w w' := by
 have HT := Lib.hid (fun W => rtext_all 4 0 0 s hs (by decide) W)
 have hE := txtE_ok (tkn 4 s 0)
 unfold strB
 unfold tkn at hE ⊢
 generalize Lex.txtE ⟨4,s,0,0⟩ = E at *
 generalize (⟨(Lex.txtT ⟨4,s,0,0⟩).toArray⟩ : ByteArray) = R at *
 rw [← hE]
 clear hE
 go_enter Tryz.func146,Tryz.ntmps146
 go_wp2_with fail
 refine (HT.out _).mono ?_
 rintro e w' ⟨rfl,g⟩
 have G := Lib.hid g
 clear g
 go_wp2_with fail
 go_ret
 exact ⟨rfl,G.out⟩
theorem rexpr_any (k : Int) (s : ByteArray) (i : Int) (ko jo : Option Addr) (kn kc jn jc : Nat) (w : World) : Calls Tryz.prog 149 #[.agg #[.int .i64 k,.string s,.int .i64 i,.slice ko kn kc,.slice jo jn jc]] w fun e w' => e = .returned (.bool (decide (1 ≤ k ∧ k ≤ 12))) ∧ Bel w w' := by
 have HB := Lib.hid (Bel.alloc (Bel.refl w) (.cells #[.int .i64 k,.string s,.int .i64 i,.slice ko kn kc,.slice jo jn jc] 65))
 rcases (show (1 ≤ k ∧ k ≤ 12) ∨ k < 1 ∨ 12 < k by omega) with h | h | h
 ·rw [decide_eq_true h]
  obtain ⟨h1,h2⟩ := h
  go_enter Tryz.func149,Tryz.ntmps149
  go_wp2_with fail
  go_ret
  exact ⟨rfl,HB.out⟩
 ·rw [decide_eq_false (by omega)]
  go_enter Tryz.func149,Tryz.ntmps149
  go_wp2_with fail
  go_ret
  exact ⟨rfl,HB.out⟩
 ·rw [decide_eq_false (by omega)]
  have h1 : 1 ≤ k := by omega
  go_enter Tryz.func149,Tryz.ntmps149
  go_wp2_with fail
  go_ret
  exact ⟨by simp; omega,HB.out⟩
theorem rstmt_any (k : Int) (s : ByteArray) (i : Int) (ko jo : Option Addr) (kn kc jn jc : Nat) (w : World) : Calls Tryz.prog 148 #[.agg #[.int .i64 k,.string s,.int .i64 i,.slice ko kn kc,.slice jo jn jc]] w fun e w' => e = .returned (.bool (decide (13 ≤ k ∧ k ≤ 18))) ∧ Bel w w' := by
 have HB := Lib.hid (Bel.alloc (Bel.refl w) (.cells #[.int .i64 k,.string s,.int .i64 i,.slice ko kn kc,.slice jo jn jc] 65))
 rcases (show (13 ≤ k ∧ k ≤ 18) ∨ k < 13 ∨ 18 < k by omega) with h | h | h
 ·rw [decide_eq_true h]
  obtain ⟨h1,h2⟩ := h
  go_enter Tryz.func148,Tryz.ntmps148
  go_wp2_with fail
  go_ret
  exact ⟨rfl,HB.out⟩
 ·rw [decide_eq_false (by omega)]
  go_enter Tryz.func148,Tryz.ntmps148
  go_wp2_with fail
  go_ret
  exact ⟨rfl,HB.out⟩
 ·rw [decide_eq_false (by omega)]
  have h1 : 13 ≤ k := by omega
  go_enter Tryz.func148,Tryz.ntmps148
  go_wp2_with fail
  go_ret
  exact ⟨by simp; omega,HB.out⟩
def cmpB (s : Txt) : Bool := s == [61,61] || s == [33,61] || s == [60] || s == [60,61] || s == [62] || s == [62,61]
theorem rquoT_any (s : Txt) (hs : s.length ≤ 140737488355328) (w : World) : Calls Tryz.prog 249 #[.string ⟨s.toArray⟩] w fun e w' => e = .returned (.string ⟨(Lex.txtT ⟨4,s,0,0⟩).toArray⟩) ∧ Bel w w' := by
 have HT := Lib.hid (fun W => rtext_all 4 0 0 s hs (by decide) W)
 generalize Lex.txtE ⟨4,s,0,0⟩ = E at *
 generalize (⟨(Lex.txtT ⟨4,s,0,0⟩).toArray⟩ : ByteArray) = R at *
 go_enter Tryz.func249,Tryz.ntmps249
 go_wp2_with fail
 refine (HT.out _).mono ?_
 rintro e w' ⟨rfl,g⟩
 have G := Lib.hid g
 clear g
 go_wp2_with fail
 go_ret
 exact ⟨rfl,G.out⟩
theorem tab_more (j : Nat) : (⟨(List.replicate j 9).toArray⟩ : ByteArray) ++ (⟨#[9]⟩ : ByteArray) = ⟨(List.replicate (j + 1) 9).toArray⟩ := by
 apply ByteArray.ext
 apply Array.ext'
 simp [List.replicate_succ']
theorem rtabs_any (n : Nat) (hn : n ≤ 1000000) (w : World) : Calls Tryz.prog 96 #[.int .i64 (n : Int)] w fun e w' => e = .returned (.string ⟨(List.replicate n 9).toArray⟩) ∧ w' = w := by
 have l9 : (⟨#[9]⟩ : ByteArray).size = 1 := rfl
 go_enter Tryz.func96,Tryz.ntmps96
 go_wp2_with fail
 go_loop [3,4] (fun o i => ∃ (j : Nat) (O : ByteArray),i = .int .i64 (j : Int) ∧ o = .string O ∧ j ≤ n ∧ O.size = j ∧ Hid (O = ⟨(List.replicate j 9).toArray⟩)) (fun _ i => n - (intOf i).toNat)
 case atStart => exact ⟨0,⟨#[]⟩,rfl,rfl,Nat.zero_le _,rfl,Lib.hid rfl⟩
 case round =>
  obtain ⟨j,O,rfl,rfl,hj,hO,hE⟩ := hrel
  by_cases hlt : j < n
  ·have hE2 : Hid (O ++ (⟨#[9]⟩ : ByteArray) = ⟨(List.replicate (j + 1) 9).toArray⟩) := Lib.hid (by rw [hE.out]; exact tab_more j)
   go_wp2_with fail
   go_round
   case rel => exact ⟨j + 1,_,by go_num,rfl,by omega,by rw [ByteArray.size_append,l9,hO],hE2⟩
   case measure => simp [intOf]; omega
  ·obtain rfl : j = n := by omega
   have hE3 : Hid (∀ v,v = Ending.returned (.string O) → v = .returned (.string ⟨(List.replicate j 9).toArray⟩)) := Lib.hid (fun v hv => by rw [hv,hE.out])
   go_wp2_with fail
   go_ret
   exact ⟨hE3.out _ rfl,rfl⟩

theorem rcmp_any (s : Txt) (w : World) : Calls Tryz.prog 198 #[.string ⟨s.toArray⟩] w fun e w' => e = .returned (.bool (cmpB s)) ∧ w' = w := by
 by_cases h0 : s = [61,61]
 ·subst h0
  rw [show cmpB [61,61] = true from rfl]
  go_enter Tryz.func198,Tryz.ntmps198
  go_wp2
  go_ret
  exact ⟨rfl,rfl⟩
 by_cases h1 : s = [33,61]
 ·subst h1
  rw [show cmpB [33,61] = true from rfl]
  go_enter Tryz.func198,Tryz.ntmps198
  go_wp2
  go_ret
  exact ⟨rfl,rfl⟩
 by_cases h2 : s = [60]
 ·subst h2
  rw [show cmpB [60] = true from rfl]
  go_enter Tryz.func198,Tryz.ntmps198
  go_wp2
  go_ret
  exact ⟨rfl,rfl⟩
 by_cases h3 : s = [60,61]
 ·subst h3
  rw [show cmpB [60,61] = true from rfl]
  go_enter Tryz.func198,Tryz.ntmps198
  go_wp2
  go_ret
  exact ⟨rfl,rfl⟩
 by_cases h4 : s = [62]
 ·subst h4
  rw [show cmpB [62] = true from rfl]
  go_enter Tryz.func198,Tryz.ntmps198
  go_wp2
  go_ret
  exact ⟨rfl,rfl⟩
 by_cases h5 : s = [62,61]
 ·subst h5
  rw [show cmpB [62,61] = true from rfl]
  go_enter Tryz.func198,Tryz.ntmps198
  go_wp2
  go_ret
  exact ⟨rfl,rfl⟩
 have b0 : (s == [61,61]) = false := by simpa using h0
 have b1 : (s == [33,61]) = false := by simpa using h1
 have b2 : (s == [60]) = false := by simpa using h2
 have b3 : (s == [60,61]) = false := by simpa using h3
 have b4 : (s == [62]) = false := by simpa using h4
 have b5 : (s == [62,61]) = false := by simpa using h5
 have e : cmpB s = false := by
  unfold cmpB
  rw [b0,b1,b2,b3,b4,b5]
  rfl
 rw [e]
 clear e
 go_enter Tryz.func198,Tryz.ntmps198
 go_wp2
 go_ret
 exact ⟨rfl,rfl⟩
theorem rbin_any (s : Txt) (w : World) : Calls Tryz.prog 147 #[.string ⟨s.toArray⟩] w fun e w' => e = .returned (.bool (binL s != 0)) ∧ w' = w := by
 have HC := Lib.hid (fun W => rcmp_any s W)
 by_cases h0 : s = [111,114]
 ·subst h0
  rw [show (binL [111,114] != 0) = true from rfl]
  go_enter Tryz.func147,Tryz.ntmps147
  go_wp2_with fail
  go_ret
  exact ⟨rfl,rfl⟩
 by_cases h1 : s = [97,110,100]
 ·subst h1
  rw [show (binL [97,110,100] != 0) = true from rfl]
  go_enter Tryz.func147,Tryz.ntmps147
  go_wp2_with fail
  go_ret
  exact ⟨rfl,rfl⟩
 by_cases h2 : s = [61,61]
 ·subst h2
  rw [show (binL [61,61] != 0) = true from rfl]
  rw [show cmpB [61,61] = true from rfl] at HC
  go_enter Tryz.func147,Tryz.ntmps147
  go_wp2_with fail
  refine (HC.out _).mono ?_
  rintro e w' ⟨rfl,rfl⟩
  go_wp2_with fail
  go_ret
  exact ⟨rfl,rfl⟩
 by_cases h3 : s = [33,61]
 ·subst h3
  rw [show (binL [33,61] != 0) = true from rfl]
  rw [show cmpB [33,61] = true from rfl] at HC
  go_enter Tryz.func147,Tryz.ntmps147
  go_wp2_with fail
  refine (HC.out _).mono ?_
  rintro e w' ⟨rfl,rfl⟩
  go_wp2_with fail
  go_ret
  exact ⟨rfl,rfl⟩
 by_cases h4 : s = [60]
 ·subst h4
  rw [show (binL [60] != 0) = true from rfl]
  rw [show cmpB [60] = true from rfl] at HC
  go_enter Tryz.func147,Tryz.ntmps147
  go_wp2_with fail
  refine (HC.out _).mono ?_
  rintro e w' ⟨rfl,rfl⟩
  go_wp2_with fail
  go_ret
  exact ⟨rfl,rfl⟩
 by_cases h5 : s = [60,61]
 ·subst h5
  rw [show (binL [60,61] != 0) = true from rfl]
  rw [show cmpB [60,61] = true from rfl] at HC
  go_enter Tryz.func147,Tryz.ntmps147
  go_wp2_with fail
  refine (HC.out _).mono ?_
  rintro e w' ⟨rfl,rfl⟩
  go_wp2_with fail
  go_ret
  exact ⟨rfl,rfl⟩
 by_cases h6 : s = [62]
 ·subst h6
  rw [show (binL [62] != 0) = true from rfl]
  rw [show cmpB [62] = true from rfl] at HC
  go_enter Tryz.func147,Tryz.ntmps147
  go_wp2_with fail
  refine (HC.out _).mono ?_
  rintro e w' ⟨rfl,rfl⟩
  go_wp2_with fail
  go_ret
  exact ⟨rfl,rfl⟩
 by_cases h7 : s = [62,61]
 ·subst h7
  rw [show (binL [62,61] != 0) = true from rfl]
  rw [show cmpB [62,61] = true from rfl] at HC
  go_enter Tryz.func147,Tryz.ntmps147
  go_wp2_with fail
  refine (HC.out _).mono ?_
  rintro e w' ⟨rfl,rfl⟩
  go_wp2_with fail
  go_ret
  exact ⟨rfl,rfl⟩
 by_cases h8 : s = [43]
 ·subst h8
  rw [show (binL [43] != 0) = true from rfl]
  rw [show cmpB [43] = false from rfl] at HC
  go_enter Tryz.func147,Tryz.ntmps147
  go_wp2_with fail
  refine (HC.out _).mono ?_
  rintro e w' ⟨rfl,rfl⟩
  go_wp2_with fail
  go_ret
  exact ⟨rfl,rfl⟩
 by_cases h9 : s = [45]
 ·subst h9
  rw [show (binL [45] != 0) = true from rfl]
  rw [show cmpB [45] = false from rfl] at HC
  go_enter Tryz.func147,Tryz.ntmps147
  go_wp2_with fail
  refine (HC.out _).mono ?_
  rintro e w' ⟨rfl,rfl⟩
  go_wp2_with fail
  go_ret
  exact ⟨rfl,rfl⟩
 by_cases h10 : s = [42]
 ·subst h10
  rw [show (binL [42] != 0) = true from rfl]
  rw [show cmpB [42] = false from rfl] at HC
  go_enter Tryz.func147,Tryz.ntmps147
  go_wp2_with fail
  refine (HC.out _).mono ?_
  rintro e w' ⟨rfl,rfl⟩
  go_wp2_with fail
  go_ret
  exact ⟨rfl,rfl⟩
 by_cases h11 : s = [47]
 ·subst h11
  rw [show (binL [47] != 0) = true from rfl]
  rw [show cmpB [47] = false from rfl] at HC
  go_enter Tryz.func147,Tryz.ntmps147
  go_wp2_with fail
  refine (HC.out _).mono ?_
  rintro e w' ⟨rfl,rfl⟩
  go_wp2_with fail
  go_ret
  exact ⟨rfl,rfl⟩
 by_cases h12 : s = [37]
 ·subst h12
  rw [show (binL [37] != 0) = true from rfl]
  rw [show cmpB [37] = false from rfl] at HC
  go_enter Tryz.func147,Tryz.ntmps147
  go_wp2_with fail
  refine (HC.out _).mono ?_
  rintro e w' ⟨rfl,rfl⟩
  go_wp2_with fail
  go_ret
  exact ⟨rfl,rfl⟩
 have b0 : (s == [111,114]) = false := by simpa using h0
 have b1 : (s == [97,110,100]) = false := by simpa using h1
 have b2 : (s == [61,61]) = false := by simpa using h2
 have b3 : (s == [33,61]) = false := by simpa using h3
 have b4 : (s == [60]) = false := by simpa using h4
 have b5 : (s == [60,61]) = false := by simpa using h5
 have b6 : (s == [62]) = false := by simpa using h6
 have b7 : (s == [62,61]) = false := by simpa using h7
 have b8 : (s == [43]) = false := by simpa using h8
 have b9 : (s == [45]) = false := by simpa using h9
 have b10 : (s == [42]) = false := by simpa using h10
 have b11 : (s == [47]) = false := by simpa using h11
 have b12 : (s == [37]) = false := by simpa using h12
 have e : binL s = 0 := by
  unfold binL opsL
  simp [h0,h1,h2,h3,h4,h5,h6,h7,h8,h9,h10,h11,h12]
 rw [e]
 have ec : cmpB s = false := by
  unfold cmpB
  rw [b2,b3,b4,b5,b6,b7]
  rfl
 rw [ec] at HC
 rw [show ((0 : Nat) != 0) = false from rfl]
 clear e ec
 go_enter Tryz.func147,Tryz.ntmps147
 go_wp2_with fail
 refine (HC.out _).mono ?_
 rintro e w' ⟨rfl,rfl⟩
 go_wp2_with fail
 go_ret
 exact ⟨rfl,rfl⟩
theorem rlvN_any (k : Int) (s : Txt) (i : Int) (hb : k = 9 → binL s ≠ 0) (hu : k = 8 → s = [45] ∨ s = [110,111,116]) (ko jo : Option Addr) (kn kc jn jc : Nat) (w : World) : Calls Tryz.prog 204 #[.agg #[.int .i64 k,.string ⟨s.toArray⟩,.int .i64 i,.slice ko kn kc,.slice jo jn jc]] w fun e w' => e = .returned (.int .i64 (lvN k s : Int)) ∧ Bel w w' := by
 have HB := Lib.hid (Bel.alloc (Bel.refl w) (.cells #[.int .i64 k,.string ⟨s.toArray⟩,.int .i64 i,.slice ko kn kc,.slice jo jn jc] 65))
 have HC := Lib.hid (fun W => rcmp_any s W)
 by_cases k10 : k = 10
 ·subst k10
  rw [show lvN 10 s = 8 from rfl]
  clear hb hu
  go_enter Tryz.func204,Tryz.ntmps204
  go_wp2_with fail
  go_ret
  exact ⟨rfl,HB.out⟩
 by_cases k8 : k = 8
 ·subst k8
  rcases hu rfl with rfl | rfl
  ·rw [show lvN 8 [45] = 7 from rfl]
   clear hb hu
   go_enter Tryz.func204,Tryz.ntmps204
   go_wp2_with fail
   go_ret
   exact ⟨rfl,HB.out⟩
  ·rw [show lvN 8 [110,111,116] = 3 from rfl]
   clear hb hu
   go_enter Tryz.func204,Tryz.ntmps204
   go_wp2_with fail
   go_ret
   exact ⟨rfl,HB.out⟩
 by_cases k9 : k = 9
 ·subst k9
  have hb9 := hb rfl
  clear hb hu
  by_cases h0 : s = [111,114]
  ·subst h0
   rw [show lvN 9 [111,114] = 1 from rfl]
   clear hb9
   go_enter Tryz.func204,Tryz.ntmps204
   go_wp2_with fail
   go_ret
   exact ⟨rfl,HB.out⟩
  by_cases h1 : s = [97,110,100]
  ·subst h1
   rw [show lvN 9 [97,110,100] = 2 from rfl]
   clear hb9
   go_enter Tryz.func204,Tryz.ntmps204
   go_wp2_with fail
   go_ret
   exact ⟨rfl,HB.out⟩
  by_cases h2 : s = [61,61]
  ·subst h2
   rw [show lvN 9 [61,61] = 4 from rfl]
   clear hb9
   rw [show cmpB [61,61] = true from rfl] at HC
   go_enter Tryz.func204,Tryz.ntmps204
   go_wp2_with fail
   refine (HC.out _).mono ?_
   rintro e w' ⟨rfl,rfl⟩
   go_wp2_with fail
   go_ret
   exact ⟨rfl,HB.out⟩
  by_cases h3 : s = [33,61]
  ·subst h3
   rw [show lvN 9 [33,61] = 4 from rfl]
   clear hb9
   rw [show cmpB [33,61] = true from rfl] at HC
   go_enter Tryz.func204,Tryz.ntmps204
   go_wp2_with fail
   refine (HC.out _).mono ?_
   rintro e w' ⟨rfl,rfl⟩
   go_wp2_with fail
   go_ret
   exact ⟨rfl,HB.out⟩
  by_cases h4 : s = [60]
  ·subst h4
   rw [show lvN 9 [60] = 4 from rfl]
   clear hb9
   rw [show cmpB [60] = true from rfl] at HC
   go_enter Tryz.func204,Tryz.ntmps204
   go_wp2_with fail
   refine (HC.out _).mono ?_
   rintro e w' ⟨rfl,rfl⟩
   go_wp2_with fail
   go_ret
   exact ⟨rfl,HB.out⟩
  by_cases h5 : s = [60,61]
  ·subst h5
   rw [show lvN 9 [60,61] = 4 from rfl]
   clear hb9
   rw [show cmpB [60,61] = true from rfl] at HC
   go_enter Tryz.func204,Tryz.ntmps204
   go_wp2_with fail
   refine (HC.out _).mono ?_
   rintro e w' ⟨rfl,rfl⟩
   go_wp2_with fail
   go_ret
   exact ⟨rfl,HB.out⟩
  by_cases h6 : s = [62]
  ·subst h6
   rw [show lvN 9 [62] = 4 from rfl]
   clear hb9
   rw [show cmpB [62] = true from rfl] at HC
   go_enter Tryz.func204,Tryz.ntmps204
   go_wp2_with fail
   refine (HC.out _).mono ?_
   rintro e w' ⟨rfl,rfl⟩
   go_wp2_with fail
   go_ret
   exact ⟨rfl,HB.out⟩
  by_cases h7 : s = [62,61]
  ·subst h7
   rw [show lvN 9 [62,61] = 4 from rfl]
   clear hb9
   rw [show cmpB [62,61] = true from rfl] at HC
   go_enter Tryz.func204,Tryz.ntmps204
   go_wp2_with fail
   refine (HC.out _).mono ?_
   rintro e w' ⟨rfl,rfl⟩
   go_wp2_with fail
   go_ret
   exact ⟨rfl,HB.out⟩
  by_cases h8 : s = [43]
  ·subst h8
   rw [show lvN 9 [43] = 5 from rfl]
   clear hb9
   rw [show cmpB [43] = false from rfl] at HC
   go_enter Tryz.func204,Tryz.ntmps204
   go_wp2_with fail
   refine (HC.out _).mono ?_
   rintro e w' ⟨rfl,rfl⟩
   go_wp2_with fail
   go_ret
   exact ⟨rfl,HB.out⟩
  by_cases h9 : s = [45]
  ·subst h9
   rw [show lvN 9 [45] = 5 from rfl]
   clear hb9
   rw [show cmpB [45] = false from rfl] at HC
   go_enter Tryz.func204,Tryz.ntmps204
   go_wp2_with fail
   refine (HC.out _).mono ?_
   rintro e w' ⟨rfl,rfl⟩
   go_wp2_with fail
   go_ret
   exact ⟨rfl,HB.out⟩
  by_cases h10 : s = [42]
  ·subst h10
   rw [show lvN 9 [42] = 6 from rfl]
   clear hb9
   rw [show cmpB [42] = false from rfl] at HC
   go_enter Tryz.func204,Tryz.ntmps204
   go_wp2_with fail
   refine (HC.out _).mono ?_
   rintro e w' ⟨rfl,rfl⟩
   go_wp2_with fail
   go_ret
   exact ⟨rfl,HB.out⟩
  by_cases h11 : s = [47]
  ·subst h11
   rw [show lvN 9 [47] = 6 from rfl]
   clear hb9
   rw [show cmpB [47] = false from rfl] at HC
   go_enter Tryz.func204,Tryz.ntmps204
   go_wp2_with fail
   refine (HC.out _).mono ?_
   rintro e w' ⟨rfl,rfl⟩
   go_wp2_with fail
   go_ret
   exact ⟨rfl,HB.out⟩
  by_cases h12 : s = [37]
  ·subst h12
   rw [show lvN 9 [37] = 6 from rfl]
   clear hb9
   rw [show cmpB [37] = false from rfl] at HC
   go_enter Tryz.func204,Tryz.ntmps204
   go_wp2_with fail
   refine (HC.out _).mono ?_
   rintro e w' ⟨rfl,rfl⟩
   go_wp2_with fail
   go_ret
   exact ⟨rfl,HB.out⟩
  exact absurd (show binL s = 0 by
   unfold binL opsL
   simp [h0,h1,h2,h3,h4,h5,h6,h7,h8,h9,h10,h11,h12]) hb9
 have e : lvN k s = 9 := by
  unfold lvN
  rw [if_neg k8,if_neg k9,if_neg k10]
 rw [e]
 have b8 : (k == 8) = false := by simpa using k8
 have b9 : (k == 9) = false := by simpa using k9
 have b10 : (k == 10) = false := by simpa using k10
 have n9 : (k != 9) = true := by simpa using k9
 clear hb hu e
 go_enter Tryz.func204,Tryz.ntmps204
 go_wp2_with fail
 go_ret
 exact ⟨rfl,HB.out⟩
theorem int3 (i : Int) : intF 3 i = (decide (0 ≤ i) && decide (i ≤ 1000000000000)) := rfl

theorem rfld_4 (s : Txt) (hs : s.length ≤ 140737488355328) (i : Int) (ko jo : Option Addr) (kn kc jn jc : Nat) (w : World) : Calls Tryz.prog 90 #[.agg #[.int .i64 4,.string ⟨s.toArray⟩,.int .i64 i,.slice ko kn kc,.slice jo jn jc]] w fun e w' => e = .returned (.bool (intF 4 i && (textB 4 s && decide (kn = 0)))) ∧ Bel w w' := by
 have HB := Lib.hid (Bel.alloc (Bel.refl w) (.cells #[.int .i64 4,.string ⟨s.toArray⟩,.int .i64 i,.slice ko kn kc,.slice jo jn jc] 65))
 by_cases hi0 : i ≠ 0
 ·have hib : (i != 0) = true := by simpa using hi0
  rw [show intF 4 i = false by unfold intF; rw [if_neg (by decide),if_neg (by decide)]; simpa using hi0,Bool.false_and]
  go_enter Tryz.func90,Tryz.ntmps90
  go_wp2_with fail
  go_ret
  exact ⟨rfl,HB.out⟩
 obtain rfl : i = 0 := by omega
 rw [show intF 4 0 = true from rfl,Bool.true_and]
 by_cases hk0 : kn ≠ 0
 ·have hp : (0 : Int) < (kn : Int) := by omega
  rw [decide_eq_false hk0,Bool.and_false]
  go_enter Tryz.func90,Tryz.ntmps90
  go_wp2_with fail
  go_ret
  exact ⟨rfl,HB.out⟩
 obtain rfl : kn = 0 := by omega
 rw [decide_eq_true (show (0 : Nat) = 0 from rfl),Bool.and_true]
 rw [show textB 4 s = strB s from rfl]
 have H := Lib.hid (fun W => rstr_any s hs W)
 generalize strB s = b at *
 go_enter Tryz.func90,Tryz.ntmps90
 go_wp2_with fail
 refine (H.out _).mono ?_
 rintro e w' ⟨rfl,g⟩
 have G := Lib.hid (Bel.trans HB.out g)
 clear g
 go_wp2_with fail
 go_ret
 exact ⟨rfl,G.out⟩
theorem rfld_5 (s : Txt) (hs : s.length ≤ 140737488355328) (i : Int) (ko jo : Option Addr) (kn kc jn jc : Nat) (w : World) : Calls Tryz.prog 90 #[.agg #[.int .i64 5,.string ⟨s.toArray⟩,.int .i64 i,.slice ko kn kc,.slice jo jn jc]] w fun e w' => e = .returned (.bool (intF 5 i && (textB 5 s && decide (kn = 0)))) ∧ Bel w w' := by
 have HB := Lib.hid (Bel.alloc (Bel.refl w) (.cells #[.int .i64 5,.string ⟨s.toArray⟩,.int .i64 i,.slice ko kn kc,.slice jo jn jc] 65))
 by_cases hi0 : i ≠ 0
 ·have hib : (i != 0) = true := by simpa using hi0
  rw [show intF 5 i = false by unfold intF; rw [if_neg (by decide),if_neg (by decide)]; simpa using hi0,Bool.false_and]
  go_enter Tryz.func90,Tryz.ntmps90
  go_wp2_with fail
  go_ret
  exact ⟨rfl,HB.out⟩
 obtain rfl : i = 0 := by omega
 rw [show intF 5 0 = true from rfl,Bool.true_and]
 by_cases hk0 : kn ≠ 0
 ·have hp : (0 : Int) < (kn : Int) := by omega
  rw [decide_eq_false hk0,Bool.and_false]
  go_enter Tryz.func90,Tryz.ntmps90
  go_wp2_with fail
  go_ret
  exact ⟨rfl,HB.out⟩
 obtain rfl : kn = 0 := by omega
 rw [decide_eq_true (show (0 : Nat) = 0 from rfl),Bool.and_true]
 rw [show textB 5 s = nameB s from rfl]
 have H := Lib.hid (fun W => rname_any s hs W)
 generalize nameB s = b at *
 go_enter Tryz.func90,Tryz.ntmps90
 go_wp2_with fail
 refine (H.out _).mono ?_
 rintro e w' ⟨rfl,g⟩
 have G := Lib.hid (Bel.trans HB.out g)
 clear g
 go_wp2_with fail
 go_ret
 exact ⟨rfl,G.out⟩
theorem rfld_11 (s : Txt) (hs : s.length ≤ 140737488355328) (i : Int) (ko jo : Option Addr) (kn kc jn jc : Nat) (w : World) : Calls Tryz.prog 90 #[.agg #[.int .i64 11,.string ⟨s.toArray⟩,.int .i64 i,.slice ko kn kc,.slice jo jn jc]] w fun e w' => e = .returned (.bool (intF 11 i && (textB 11 s && decide (kn = 0)))) ∧ Bel w w' := by
 have HB := Lib.hid (Bel.alloc (Bel.refl w) (.cells #[.int .i64 11,.string ⟨s.toArray⟩,.int .i64 i,.slice ko kn kc,.slice jo jn jc] 65))
 by_cases hi0 : i ≠ 0
 ·have hib : (i != 0) = true := by simpa using hi0
  rw [show intF 11 i = false by unfold intF; rw [if_neg (by decide),if_neg (by decide)]; simpa using hi0,Bool.false_and]
  go_enter Tryz.func90,Tryz.ntmps90
  go_wp2_with fail
  go_ret
  exact ⟨rfl,HB.out⟩
 obtain rfl : i = 0 := by omega
 rw [show intF 11 0 = true from rfl,Bool.true_and]
 by_cases hk0 : kn ≠ 0
 ·have hp : (0 : Int) < (kn : Int) := by omega
  rw [decide_eq_false hk0,Bool.and_false]
  go_enter Tryz.func90,Tryz.ntmps90
  go_wp2_with fail
  go_ret
  exact ⟨rfl,HB.out⟩
 obtain rfl : kn = 0 := by omega
 rw [decide_eq_true (show (0 : Nat) = 0 from rfl),Bool.and_true]
 rw [show textB 11 s = nameB s from rfl]
 have H := Lib.hid (fun W => rname_any s hs W)
 generalize nameB s = b at *
 go_enter Tryz.func90,Tryz.ntmps90
 go_wp2_with fail
 refine (H.out _).mono ?_
 rintro e w' ⟨rfl,g⟩
 have G := Lib.hid (Bel.trans HB.out g)
 clear g
 go_wp2_with fail
 go_ret
 exact ⟨rfl,G.out⟩
theorem rfld_13 (s : Txt) (hs : s.length ≤ 140737488355328) (i : Int) (ko jo : Option Addr) (kn kc jn jc : Nat) (w : World) : Calls Tryz.prog 90 #[.agg #[.int .i64 13,.string ⟨s.toArray⟩,.int .i64 i,.slice ko kn kc,.slice jo jn jc]] w fun e w' => e = .returned (.bool (intF 13 i && (textB 13 s && decide (kn = 0)))) ∧ Bel w w' := by
 have HB := Lib.hid (Bel.alloc (Bel.refl w) (.cells #[.int .i64 13,.string ⟨s.toArray⟩,.int .i64 i,.slice ko kn kc,.slice jo jn jc] 65))
 by_cases hi0 : i ≠ 0
 ·have hib : (i != 0) = true := by simpa using hi0
  rw [show intF 13 i = false by unfold intF; rw [if_neg (by decide),if_neg (by decide)]; simpa using hi0,Bool.false_and]
  go_enter Tryz.func90,Tryz.ntmps90
  go_wp2_with fail
  go_ret
  exact ⟨rfl,HB.out⟩
 obtain rfl : i = 0 := by omega
 rw [show intF 13 0 = true from rfl,Bool.true_and]
 by_cases hk0 : kn ≠ 0
 ·have hp : (0 : Int) < (kn : Int) := by omega
  rw [decide_eq_false hk0,Bool.and_false]
  go_enter Tryz.func90,Tryz.ntmps90
  go_wp2_with fail
  go_ret
  exact ⟨rfl,HB.out⟩
 obtain rfl : kn = 0 := by omega
 rw [decide_eq_true (show (0 : Nat) = 0 from rfl),Bool.and_true]
 rw [show textB 13 s = nameB s from rfl]
 have H := Lib.hid (fun W => rname_any s hs W)
 generalize nameB s = b at *
 go_enter Tryz.func90,Tryz.ntmps90
 go_wp2_with fail
 refine (H.out _).mono ?_
 rintro e w' ⟨rfl,g⟩
 have G := Lib.hid (Bel.trans HB.out g)
 clear g
 go_wp2_with fail
 go_ret
 exact ⟨rfl,G.out⟩
theorem rfld_14 (s : Txt) (hs : s.length ≤ 140737488355328) (i : Int) (ko jo : Option Addr) (kn kc jn jc : Nat) (w : World) : Calls Tryz.prog 90 #[.agg #[.int .i64 14,.string ⟨s.toArray⟩,.int .i64 i,.slice ko kn kc,.slice jo jn jc]] w fun e w' => e = .returned (.bool (intF 14 i && (textB 14 s && decide (kn = 0)))) ∧ Bel w w' := by
 have HB := Lib.hid (Bel.alloc (Bel.refl w) (.cells #[.int .i64 14,.string ⟨s.toArray⟩,.int .i64 i,.slice ko kn kc,.slice jo jn jc] 65))
 by_cases hi0 : i ≠ 0
 ·have hib : (i != 0) = true := by simpa using hi0
  rw [show intF 14 i = false by unfold intF; rw [if_neg (by decide),if_neg (by decide)]; simpa using hi0,Bool.false_and]
  go_enter Tryz.func90,Tryz.ntmps90
  go_wp2_with fail
  go_ret
  exact ⟨rfl,HB.out⟩
 obtain rfl : i = 0 := by omega
 rw [show intF 14 0 = true from rfl,Bool.true_and]
 by_cases hk0 : kn ≠ 0
 ·have hp : (0 : Int) < (kn : Int) := by omega
  rw [decide_eq_false hk0,Bool.and_false]
  go_enter Tryz.func90,Tryz.ntmps90
  go_wp2_with fail
  go_ret
  exact ⟨rfl,HB.out⟩
 obtain rfl : kn = 0 := by omega
 rw [decide_eq_true (show (0 : Nat) = 0 from rfl),Bool.and_true]
 rw [show textB 14 s = nameB s from rfl]
 have H := Lib.hid (fun W => rname_any s hs W)
 generalize nameB s = b at *
 go_enter Tryz.func90,Tryz.ntmps90
 go_wp2_with fail
 refine (H.out _).mono ?_
 rintro e w' ⟨rfl,g⟩
 have G := Lib.hid (Bel.trans HB.out g)
 clear g
 go_wp2_with fail
 go_ret
 exact ⟨rfl,G.out⟩
theorem rfld_12 (s : Txt) (hs : s.length ≤ 140737488355328) (i : Int) (ko jo : Option Addr) (kn kc jn jc : Nat) (w : World) : Calls Tryz.prog 90 #[.agg #[.int .i64 12,.string ⟨s.toArray⟩,.int .i64 i,.slice ko kn kc,.slice jo jn jc]] w fun e w' => e = .returned (.bool (intF 12 i && (textB 12 s && decide (kn = 0)))) ∧ Bel w w' := by
 have HB := Lib.hid (Bel.alloc (Bel.refl w) (.cells #[.int .i64 12,.string ⟨s.toArray⟩,.int .i64 i,.slice ko kn kc,.slice jo jn jc] 65))
 by_cases hi0 : i ≠ 0
 ·have hib : (i != 0) = true := by simpa using hi0
  rw [show intF 12 i = false by unfold intF; rw [if_neg (by decide),if_neg (by decide)]; simpa using hi0,Bool.false_and]
  go_enter Tryz.func90,Tryz.ntmps90
  go_wp2_with fail
  go_ret
  exact ⟨rfl,HB.out⟩
 obtain rfl : i = 0 := by omega
 rw [show intF 12 0 = true from rfl,Bool.true_and]
 by_cases hk0 : kn ≠ 0
 ·have hp : (0 : Int) < (kn : Int) := by omega
  rw [decide_eq_false hk0,Bool.and_false]
  go_enter Tryz.func90,Tryz.ntmps90
  go_wp2_with fail
  go_ret
  exact ⟨rfl,HB.out⟩
 obtain rfl : kn = 0 := by omega
 rw [decide_eq_true (show (0 : Nat) = 0 from rfl),Bool.and_true]
 rw [show textB 12 s = hostB s from rfl]
 have HT := Lib.hid (fun W => rtext_all 6 0 0 s hs (by decide) W)
 have hE := txtE_ok (tkn 6 s 0)
 unfold hostB
 unfold tkn at hE ⊢
 generalize Lex.txtE ⟨6,s,0,0⟩ = E at *
 generalize (⟨(Lex.txtT ⟨6,s,0,0⟩).toArray⟩ : ByteArray) = R at *
 rw [← hE]
 clear hE
 go_enter Tryz.func90,Tryz.ntmps90
 go_wp2_with fail
 refine (HT.out _).mono ?_
 rintro e w' ⟨rfl,g⟩
 have G := Lib.hid (Bel.trans HB.out g)
 clear g
 go_wp2_with fail
 go_ret
 exact ⟨rfl,G.out⟩
theorem rfld_9 (s : Txt) (i : Int) (ko jo : Option Addr) (kn kc jn jc : Nat) (w : World) : Calls Tryz.prog 90 #[.agg #[.int .i64 9,.string ⟨s.toArray⟩,.int .i64 i,.slice ko kn kc,.slice jo jn jc]] w fun e w' => e = .returned (.bool (intF 9 i && (textB 9 s && decide (kn = 0)))) ∧ Bel w w' := by
 have HB := Lib.hid (Bel.alloc (Bel.refl w) (.cells #[.int .i64 9,.string ⟨s.toArray⟩,.int .i64 i,.slice ko kn kc,.slice jo jn jc] 65))
 by_cases hi0 : i ≠ 0
 ·have hib : (i != 0) = true := by simpa using hi0
  rw [show intF 9 i = false by unfold intF; rw [if_neg (by decide),if_neg (by decide)]; simpa using hi0,Bool.false_and]
  go_enter Tryz.func90,Tryz.ntmps90
  go_wp2_with fail
  go_ret
  exact ⟨rfl,HB.out⟩
 obtain rfl : i = 0 := by omega
 rw [show intF 9 0 = true from rfl,Bool.true_and]
 by_cases hk0 : kn ≠ 0
 ·have hp : (0 : Int) < (kn : Int) := by omega
  rw [decide_eq_false hk0,Bool.and_false]
  go_enter Tryz.func90,Tryz.ntmps90
  go_wp2_with fail
  go_ret
  exact ⟨rfl,HB.out⟩
 obtain rfl : kn = 0 := by omega
 rw [decide_eq_true (show (0 : Nat) = 0 from rfl),Bool.and_true]
 rw [show textB 9 s = (binL s != 0) from rfl]
 have H := Lib.hid (fun W => rbin_any s W)
 generalize (binL s != 0) = b at *
 go_enter Tryz.func90,Tryz.ntmps90
 go_wp2_with fail
 refine (H.out _).mono ?_
 rintro e w' ⟨rfl,rfl⟩
 go_wp2_with fail
 go_ret
 exact ⟨rfl,HB.out⟩
theorem rfld_8 (s : Txt) (i : Int) (ko jo : Option Addr) (kn kc jn jc : Nat) (w : World) : Calls Tryz.prog 90 #[.agg #[.int .i64 8,.string ⟨s.toArray⟩,.int .i64 i,.slice ko kn kc,.slice jo jn jc]] w fun e w' => e = .returned (.bool (intF 8 i && (textB 8 s && decide (kn = 0)))) ∧ Bel w w' := by
 have HB := Lib.hid (Bel.alloc (Bel.refl w) (.cells #[.int .i64 8,.string ⟨s.toArray⟩,.int .i64 i,.slice ko kn kc,.slice jo jn jc] 65))
 by_cases hi0 : i ≠ 0
 ·have hib : (i != 0) = true := by simpa using hi0
  rw [show intF 8 i = false by unfold intF; rw [if_neg (by decide),if_neg (by decide)]; simpa using hi0,Bool.false_and]
  go_enter Tryz.func90,Tryz.ntmps90
  go_wp2_with fail
  go_ret
  exact ⟨rfl,HB.out⟩
 obtain rfl : i = 0 := by omega
 rw [show intF 8 0 = true from rfl,Bool.true_and]
 by_cases hk0 : kn ≠ 0
 ·have hp : (0 : Int) < (kn : Int) := by omega
  rw [decide_eq_false hk0,Bool.and_false]
  go_enter Tryz.func90,Tryz.ntmps90
  go_wp2_with fail
  go_ret
  exact ⟨rfl,HB.out⟩
 obtain rfl : kn = 0 := by omega
 rw [decide_eq_true (show (0 : Nat) = 0 from rfl),Bool.and_true]
 by_cases h : s = [45]
 ·subst h
  rw [show textB 8 [45] = true from rfl]
  go_enter Tryz.func90,Tryz.ntmps90
  go_wp2_with fail
  go_ret
  exact ⟨rfl,HB.out⟩
 have b4 : (s == [45]) = false := by simpa using h
 clear h
 by_cases h : s = [110,111,116]
 ·subst h
  rw [show textB 8 [110,111,116] = true from rfl]
  go_enter Tryz.func90,Tryz.ntmps90
  go_wp2_with fail
  go_ret
  exact ⟨rfl,HB.out⟩
 have b15 : (s == [110,111,116]) = false := by simpa using h
 clear h
 rw [show textB 8 s = (s == [45] || s == [110,111,116]) from rfl,b4,b15]
 go_enter Tryz.func90,Tryz.ntmps90
 go_wp2_with fail
 go_ret
 exact ⟨rfl,HB.out⟩
theorem rfld_2 (s : Txt) (i : Int) (ko jo : Option Addr) (kn kc jn jc : Nat) (w : World) : Calls Tryz.prog 90 #[.agg #[.int .i64 2,.string ⟨s.toArray⟩,.int .i64 i,.slice ko kn kc,.slice jo jn jc]] w fun e w' => e = .returned (.bool (intF 2 i && (textB 2 s && decide (kn = 0)))) ∧ Bel w w' := by
 have HB := Lib.hid (Bel.alloc (Bel.refl w) (.cells #[.int .i64 2,.string ⟨s.toArray⟩,.int .i64 i,.slice ko kn kc,.slice jo jn jc] 65))
 by_cases hk0 : kn ≠ 0
 ·have hp : (0 : Int) < (kn : Int) := by omega
  rw [decide_eq_false hk0,Bool.and_false,Bool.and_false]
  go_enter Tryz.func90,Tryz.ntmps90
  go_wp2_with fail
  go_ret
  exact ⟨rfl,HB.out⟩
 obtain rfl : kn = 0 := by omega
 rw [decide_eq_true (show (0 : Nat) = 0 from rfl),Bool.and_true]
 by_cases he : s ≠ []
 ·have heb : (s != []) = true := by simpa using he
  have heb2 : (s == []) = false := by simpa using he
  have heb3 : s.isEmpty = false := by cases s with | nil => exact absurd rfl he | cons => rfl
  have ht : textB 2 s = false := by rw [show textB 2 s = s.isEmpty from rfl]; cases s with | nil => exact absurd rfl he | cons => rfl
  rw [ht]
  rw [Bool.and_false]
  go_enter Tryz.func90,Tryz.ntmps90
  go_wp2_with fail
  go_ret
  exact ⟨rfl,HB.out⟩
 obtain rfl : s = [] := by simpa using he
 rw [show textB 2 [] = true from rfl,Bool.and_true]
 by_cases h0 : i = 0
 ·subst h0
  rw [show intF 2 0 = true from rfl]
  go_enter Tryz.func90,Tryz.ntmps90
  go_wp2_with fail
  go_ret
  exact ⟨rfl,HB.out⟩
 have h0b : (i == 0) = false := by simpa using h0
 rw [show intF 2 i = (i == 0 || i == 1) from rfl,h0b,Bool.false_or]
 go_enter Tryz.func90,Tryz.ntmps90
 go_wp2_with fail
 go_ret
 exact ⟨rfl,HB.out⟩
theorem rfld_3 (s : Txt) (i : Int) (ko jo : Option Addr) (kn kc jn jc : Nat) (w : World) : Calls Tryz.prog 90 #[.agg #[.int .i64 3,.string ⟨s.toArray⟩,.int .i64 i,.slice ko kn kc,.slice jo jn jc]] w fun e w' => e = .returned (.bool (intF 3 i && (textB 3 s && decide (kn = 0)))) ∧ Bel w w' := by
 have HB := Lib.hid (Bel.alloc (Bel.refl w) (.cells #[.int .i64 3,.string ⟨s.toArray⟩,.int .i64 i,.slice ko kn kc,.slice jo jn jc] 65))
 by_cases hk0 : kn ≠ 0
 ·have hp : (0 : Int) < (kn : Int) := by omega
  rw [decide_eq_false hk0,Bool.and_false,Bool.and_false]
  go_enter Tryz.func90,Tryz.ntmps90
  go_wp2_with fail
  go_ret
  exact ⟨rfl,HB.out⟩
 obtain rfl : kn = 0 := by omega
 rw [decide_eq_true (show (0 : Nat) = 0 from rfl),Bool.and_true]
 by_cases he : s ≠ []
 ·have heb : (s != []) = true := by simpa using he
  have heb2 : (s == []) = false := by simpa using he
  have heb3 : s.isEmpty = false := by cases s with | nil => exact absurd rfl he | cons => rfl
  have ht : textB 3 s = false := by rw [show textB 3 s = s.isEmpty from rfl]; cases s with | nil => exact absurd rfl he | cons => rfl
  rw [ht]
  rw [Bool.and_false]
  go_enter Tryz.func90,Tryz.ntmps90
  go_wp2_with fail
  go_ret
  exact ⟨rfl,HB.out⟩
 obtain rfl : s = [] := by simpa using he
 rw [show textB 3 [] = true from rfl,Bool.and_true]
 have hI : intF 3 i = (decide (0 ≤ i) && decide (i ≤ 1000000000000)) := int3 i
 rw [hI]
 by_cases h0 : 0 ≤ i
 ·rw [decide_eq_true h0,Bool.true_and]
  go_enter Tryz.func90,Tryz.ntmps90
  go_wp2_with fail
  go_ret
  exact ⟨rfl,HB.out⟩
 ·rw [decide_eq_false h0,Bool.false_and]
  go_enter Tryz.func90,Tryz.ntmps90
  go_wp2_with fail
  go_ret
  exact ⟨rfl,HB.out⟩
theorem rfld_rest (k : Int) (hk : ¬ (k = 2 ∨ k = 3 ∨ k = 4 ∨ k = 5 ∨ k = 7 ∨ k = 8 ∨ k = 9 ∨ k = 11 ∨ k = 12 ∨ k = 13 ∨ k = 14)) (s : Txt) (i : Int) (ko jo : Option Addr) (kn kc jn jc : Nat) (w : World) : Calls Tryz.prog 90 #[.agg #[.int .i64 k,.string ⟨s.toArray⟩,.int .i64 i,.slice ko kn kc,.slice jo jn jc]] w fun e w' => e = .returned (.bool (intF k i && (textB k s && decide (kn = 0)))) ∧ Bel w w' := by
 have HB := Lib.hid (Bel.alloc (Bel.refl w) (.cells #[.int .i64 k,.string ⟨s.toArray⟩,.int .i64 i,.slice ko kn kc,.slice jo jn jc] 65))
 have eI : intF k i = (i == 0) := by
  unfold intF
  rw [if_neg (by omega),if_neg (by omega)]
 have eT : textB k s = s.isEmpty := by
  unfold textB
  rw [if_neg (by omega),if_neg (by omega),if_neg (by omega),if_neg (by omega),if_neg (by omega)]
 rw [eI,eT]
 have b2 : (k == 2) = false := by simp; omega
 have b3 : (k == 3) = false := by simp; omega
 have b4 : (k == 4) = false := by simp; omega
 have b5 : (k == 5) = false := by simp; omega
 have b11 : (k == 11) = false := by simp; omega
 have b13 : (k == 13) = false := by simp; omega
 have b14 : (k == 14) = false := by simp; omega
 have b12 : (k == 12) = false := by simp; omega
 have b8 : (k == 8) = false := by simp; omega
 have b9 : (k == 9) = false := by simp; omega
 have b7 : (k == 7) = false := by simp; omega
 have n2 : (k != 2) = true := by simp; omega
 have n3 : (k != 3) = true := by simp; omega
 have n7 : (k != 7) = true := by simp; omega
 clear hk eI eT
 by_cases hi0 : i ≠ 0
 ·have hib : (i != 0) = true := by simpa using hi0
  rw [show (i == 0) = false by simpa using hi0,Bool.false_and]
  go_enter Tryz.func90,Tryz.ntmps90
  go_wp2_with fail
  go_ret
  exact ⟨rfl,HB.out⟩
 obtain rfl : i = 0 := by omega
 rw [show ((0 : Int) == 0) = true from rfl,Bool.true_and]
 by_cases hk0 : kn ≠ 0
 ·have hp : (0 : Int) < (kn : Int) := by omega
  rw [decide_eq_false hk0,Bool.and_false]
  go_enter Tryz.func90,Tryz.ntmps90
  go_wp2_with fail
  go_ret
  exact ⟨rfl,HB.out⟩
 obtain rfl : kn = 0 := by omega
 rw [decide_eq_true (show (0 : Nat) = 0 from rfl),Bool.and_true]
 by_cases he : s ≠ []
 ·have heb : (s != []) = true := by simpa using he
  have heb2 : (s == []) = false := by simpa using he
  have heb3 : s.isEmpty = false := by cases s with | nil => exact absurd rfl he | cons => rfl
  rw [heb3]
  go_enter Tryz.func90,Tryz.ntmps90
  go_wp2_with fail
  go_ret
  exact ⟨rfl,HB.out⟩
 obtain rfl : s = [] := by simpa using he
 rw [show ([] : Txt).isEmpty = true from rfl]
 go_enter Tryz.func90,Tryz.ntmps90
 go_wp2_with fail
 go_ret
 exact ⟨rfl,HB.out⟩
theorem rfld_any (k : Int) (h7 : k ≠ 7) (s : Txt) (hs : s.length ≤ 140737488355328) (i : Int) (ko jo : Option Addr) (kn kc jn jc : Nat) (ks : List Txt) (hn : ks.length = kn) (w : World) :
  Calls Tryz.prog 90 #[.agg #[.int .i64 k,.string ⟨s.toArray⟩,.int .i64 i,.slice ko kn kc,.slice jo jn jc]] w fun e w' => e = .returned (.bool (intF k i && (textB k s && keysB k ks jn))) ∧ Bel w w' := by
 have e : keysB k ks jn = decide (kn = 0) := by
  unfold keysB
  rw [if_neg h7,hn]
 rw [e]
 by_cases h2 : k = 2
 ·subst h2
  exact rfld_2 s i ko jo kn kc jn jc w
 by_cases h3 : k = 3
 ·subst h3
  exact rfld_3 s i ko jo kn kc jn jc w
 by_cases h4 : k = 4
 ·subst h4
  exact rfld_4 s hs i ko jo kn kc jn jc w
 by_cases h5 : k = 5
 ·subst h5
  exact rfld_5 s hs i ko jo kn kc jn jc w
 by_cases h8 : k = 8
 ·subst h8
  exact rfld_8 s i ko jo kn kc jn jc w
 by_cases h9 : k = 9
 ·subst h9
  exact rfld_9 s i ko jo kn kc jn jc w
 by_cases h11 : k = 11
 ·subst h11
  exact rfld_11 s hs i ko jo kn kc jn jc w
 by_cases h12 : k = 12
 ·subst h12
  exact rfld_12 s hs i ko jo kn kc jn jc w
 by_cases h13 : k = 13
 ·subst h13
  exact rfld_13 s hs i ko jo kn kc jn jc w
 by_cases h14 : k = 14
 ·subst h14
  exact rfld_14 s hs i ko jo kn kc jn jc w
 exact rfld_rest k (by omega) s i ko jo kn kc jn jc w
end Syn
end Go.Proofs.YtcapkeaedpabjaaGreatDoor
