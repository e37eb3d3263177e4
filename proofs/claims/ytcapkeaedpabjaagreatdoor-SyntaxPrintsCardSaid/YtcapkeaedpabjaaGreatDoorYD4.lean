/-
  Layer 8, texts merged: LexW, LexX. For every argument within the bounds that each theorem names.
-/
import Derived.Test.YtcapkeaedpabjaaGreatDoorYD3
import Derived.Deep.OwnRows
import Derived.Lib.Join
set_option maxRecDepth 100000
set_option maxHeartbeats 16000000

/-
 Layer 7, the reference: Text, of every kind of token.
-/
namespace Go.Proofs.YtcapkeaedpabjaaGreatDoor
open Go.RowKit Go.ChangeShapes Go.WideShapes
namespace Lex

theorem rtextT_wide (k i a : Int) (S : ByteArray) (hi : -9223372036854775808 ≤ i ∧ i ≤ 9223372036854775807) (hs : S.size ≤ 140737488355328) (w : World) :
  Calls Tryz.prog 145 #[.agg #[.int .i64 k,.string S,.int .i64 i,.int .i64 a]] w fun e w' => e = .returned (.tuple #[.string ⟨(txtT ⟨k,S.toList,i,a⟩).toArray⟩,.int .i64 (txtE ⟨k,S.toList,i,a⟩)]) ∧ Bel w w' := by
 have hno := @txt_no ⟨k,S.toList,i,a⟩
 have hyes := @txt_yes ⟨k,S.toList,i,a⟩
 have HK := Lib.hid (fun w => rkeyword_any S w)
 have HS := Lib.hid (fun w => rSymbol_any S w)
 have HV := Lib.hid (fun w => Num.rvalid_any i w)
 have HF := Lib.hid (fun w => Num.rformat_any i hi.1 hi.2 w)
 have HQ := Lib.hid (fun w => rquoted_wide S (by omega) w)
 have HR0 := fun w => rrun_any S (by unfold maxLen; omega) 0 w
 rw [List.drop_zero,Nat.zero_add,show ((0 : Nat) : Int) = 0 from rfl] at HR0
 have HR := Lib.hid HR0
 have B1 := Lib.hid (Bel.alloc (Bel.refl w) (.cells #[.int .i64 k,.string S,.int .i64 i,.int .i64 a] 54))
 have hWd : (wholeB S.toList = false ∧ S.size = 0) ∨ (wholeB S.toList = false ∧ 24 < S.size) ∨ (1 ≤ S.size ∧ S.size ≤ 24 ∧ ((runN S.toList : Int) == (S.size : Int)) = wholeB S.toList) := by
  unfold wholeB
  rw [toL_len]
  by_cases h0 : S.size = 0
  ·left; exact ⟨by rw [h0]; rfl,h0⟩
  by_cases h24 : 24 < S.size
  ·right; left; exact ⟨by rw [decide_eq_false (show ¬ S.size ≤ 24 by omega)]; simp,h24⟩
  ·right; right
   refine ⟨by omega,by omega,?_⟩
   rw [decide_eq_true (show 1 ≤ S.size by omega),decide_eq_true (show S.size ≤ 24 by omega),Bool.eq_iff_iff]
   simp
   omega
 have l64 := size_lit 64
 obtain ⟨OK,hOK⟩ : ∃ OK,okT ⟨k,S.toList,i,a⟩ = OK := ⟨_,rfl⟩
 obtain ⟨WR,hWR⟩ : ∃ WR,wrt ⟨k,S.toList,i,a⟩ = WR := ⟨_,rfl⟩
 rw [hOK] at hno hyes
 rw [hWR] at hyes
 generalize txtT ⟨k,S.toList,i,a⟩ = TT at hno hyes ⊢
 generalize txtE ⟨k,S.toList,i,a⟩ = TE at hno hyes ⊢
 unfold okT at hOK
 unfold wrt at hWR
 dsimp only at hOK hWR
 generalize wholeB S.toList = W at hWd hOK
 generalize wordB S.toList = KW at HK hOK
 generalize symB S.toList = SY at HS hOK
 generalize runN S.toList = N at HR hWd
 have HWd := Lib.hid hWd
 have HNo := Lib.hid hno
 have HYes := Lib.hid hyes
 clear hno hyes hWd HR0 hi
 by_cases hk1 : k = 1
 ·subst hk1
  rw [if_pos rfl] at hOK
  rw [if_pos (by decide)] at hWR
  by_cases hi0 : i = 0
  ·subst hi0
   simp only [beq_self_eq_true,Bool.true_and] at hOK
   have hE := Lib.hid hWR
   subst hOK
   clear hWR

   go_enter Tryz.func145,Tryz.ntmps145
   go_upto_region 3 with (fail)
   go_cut [4] (fun s wx => s = .bool W ∧ TkC wx w.heap.size 1 S 0 a ∧ Bel w wx)
   case first =>
    rcases HWd.out with ⟨rfl,h⟩ | ⟨rfl,h⟩ | ⟨h1,h2,h⟩
    ·have z1 : S.size = 0 := h
     obtain rfl := empty_str z1
     clear h z1
     go_quiet (fail)
     go_wp2_with fail
     go_meet
     exact ⟨rfl,TkC.on ((TkC.new w 1 0 a ⟨#[]⟩ 54)) (Bel.drewN (Bel.refl _) _),Bel.drewN B1.out _⟩
    ·have z1 : 0 < S.size := by omega
     have z2 : decide ((S.size : Int) ≤ 24) = false := by simp; omega
     go_quiet (fail)
     go_wp2_with fail
     go_meet
     exact ⟨rfl,TkC.on ((TkC.new w 1 0 a S 54)) (Bel.drewN (Bel.refl _) _),Bel.drewN B1.out _⟩
    ·have z1 : 0 < S.size := h1
     have z2 : decide ((S.size : Int) ≤ 24) = true := by simp; omega
     have z3 : decide (0 < S.size) = true := by simp; omega
     go_quiet ((go_at_call 129; exact Calls.quiet_of_same (turn (HR.out _))))
     go_wp2_with fail
     go_meet
     exact ⟨by rw [← h],TkC.on ((TkC.new w 1 0 a S 54)) (Bel.drewN (Bel.refl _) _),Bel.drewN B1.out _⟩
   case rest =>
    obtain ⟨rfl,⟨c1,c2,c3,c4,f1,f2,f3,f4⟩,G⟩ := hcut
    cases W with
    | false =>
     simp only [Bool.false_and] at HNo HYes

     obtain ⟨rfl,rfl⟩ := HNo.out (by simp)
     clear HNo HYes
     go_wp2_with (first | (go_at_call 130; ((with_reducible refine (HK.out _).mono ?_); rintro e w' ⟨rfl,rfl⟩)) | (go_at_call 184; ((with_reducible refine (HS.out _).mono ?_); rintro e w' ⟨rfl,rfl⟩)) | (go_at_call 195; ((with_reducible refine (HV.out _).mono ?_); rintro e w' ⟨rfl,rfl⟩)) | (go_at_call 196; ((with_reducible refine (HF.out _).mono ?_); rintro e w' ⟨rfl,rfl⟩)) | (go_at_call 197; ((with_reducible refine (HQ.out _).mono ?_); rintro e w' ⟨rfl,rfl⟩)))
     go_ret2
     exact ⟨rfl,G⟩
    | true =>
     cases KW with
     | true =>
      simp only [Bool.not_true,Bool.and_false] at HNo HYes

      obtain ⟨rfl,rfl⟩ := HNo.out (by simp)
      clear HNo HYes
      go_wp2_with (first | (go_at_call 130; ((with_reducible refine (HK.out _).mono ?_); rintro e w' ⟨rfl,rfl⟩)) | (go_at_call 184; ((with_reducible refine (HS.out _).mono ?_); rintro e w' ⟨rfl,rfl⟩)) | (go_at_call 195; ((with_reducible refine (HV.out _).mono ?_); rintro e w' ⟨rfl,rfl⟩)) | (go_at_call 196; ((with_reducible refine (HF.out _).mono ?_); rintro e w' ⟨rfl,rfl⟩)) | (go_at_call 197; ((with_reducible refine (HQ.out _).mono ?_); rintro e w' ⟨rfl,rfl⟩)))
      go_ret2
      exact ⟨rfl,G⟩
     | false =>
      simp only [Bool.not_false,Bool.and_true] at HNo HYes
      have hEE : Hid ((⟨WR.toArray⟩ : ByteArray) = S) := Lib.hid (by rw [← hE.out,str_back])

      obtain ⟨y1,rfl⟩ := HYes.out (by simp)
      subst y1
      clear HNo HYes
      go_wp2_with (first | (go_at_call 130; ((with_reducible refine (HK.out _).mono ?_); rintro e w' ⟨rfl,rfl⟩)) | (go_at_call 184; ((with_reducible refine (HS.out _).mono ?_); rintro e w' ⟨rfl,rfl⟩)) | (go_at_call 195; ((with_reducible refine (HV.out _).mono ?_); rintro e w' ⟨rfl,rfl⟩)) | (go_at_call 196; ((with_reducible refine (HF.out _).mono ?_); rintro e w' ⟨rfl,rfl⟩)) | (go_at_call 197; ((with_reducible refine (HQ.out _).mono ?_); rintro e w' ⟨rfl,rfl⟩)))
      go_ret2
      exact ⟨by rw [hEE.out]; rfl,G⟩
  ·have hnz : ((i : Int) != 0) = true := by simpa using hi0
   have hz : (i == 0) = false := by simpa using hi0
   rw [hz,Bool.false_and] at hOK
   have hOK2 : ¬ OK = true := by rw [← hOK]; decide
   obtain ⟨rfl,rfl⟩ := HNo.out hOK2
   clear hOK hOK2 HNo HYes hWR hi0 hz
   go_enter Tryz.func145,Tryz.ntmps145
   go_wp2
   go_ret2
   exact ⟨rfl,B1.out⟩
 by_cases hk2 : k = 2
 ·subst hk2
  rw [if_neg (by decide),if_pos rfl] at hOK
  rw [if_pos (by decide)] at hWR
  by_cases hi0 : i = 0
  ·subst hi0
   simp only [beq_self_eq_true,Bool.true_and] at hOK
   have hE := Lib.hid hWR
   subst hOK
   clear hWR

   go_enter Tryz.func145,Tryz.ntmps145
   go_upto_region 3 with (fail)
   go_cut [4] (fun s wx => s = .bool W ∧ TkC wx w.heap.size 2 S 0 a ∧ Bel w wx)
   case first =>
    rcases HWd.out with ⟨rfl,h⟩ | ⟨rfl,h⟩ | ⟨h1,h2,h⟩
    ·have z1 : S.size = 0 := h
     obtain rfl := empty_str z1
     clear h z1
     go_quiet (fail)
     go_wp2_with fail
     go_meet
     exact ⟨rfl,TkC.on ((TkC.new w 2 0 a ⟨#[]⟩ 54)) (Bel.drewN (Bel.refl _) _),Bel.drewN B1.out _⟩
    ·have z1 : 0 < S.size := by omega
     have z2 : decide ((S.size : Int) ≤ 24) = false := by simp; omega
     go_quiet (fail)
     go_wp2_with fail
     go_meet
     exact ⟨rfl,TkC.on ((TkC.new w 2 0 a S 54)) (Bel.drewN (Bel.refl _) _),Bel.drewN B1.out _⟩
    ·have z1 : 0 < S.size := h1
     have z2 : decide ((S.size : Int) ≤ 24) = true := by simp; omega
     have z3 : decide (0 < S.size) = true := by simp; omega
     go_quiet ((go_at_call 129; exact Calls.quiet_of_same (turn (HR.out _))))
     go_wp2_with fail
     go_meet
     exact ⟨by rw [← h],TkC.on ((TkC.new w 2 0 a S 54)) (Bel.drewN (Bel.refl _) _),Bel.drewN B1.out _⟩
   case rest =>
    obtain ⟨rfl,⟨c1,c2,c3,c4,f1,f2,f3,f4⟩,G⟩ := hcut
    cases KW with
    | false =>
     obtain ⟨rfl,rfl⟩ := HNo.out (by simp)
     clear HNo HYes
     go_wp2_with (first | (go_at_call 130; ((with_reducible refine (HK.out _).mono ?_); rintro e w' ⟨rfl,rfl⟩)) | (go_at_call 184; ((with_reducible refine (HS.out _).mono ?_); rintro e w' ⟨rfl,rfl⟩)) | (go_at_call 195; ((with_reducible refine (HV.out _).mono ?_); rintro e w' ⟨rfl,rfl⟩)) | (go_at_call 196; ((with_reducible refine (HF.out _).mono ?_); rintro e w' ⟨rfl,rfl⟩)) | (go_at_call 197; ((with_reducible refine (HQ.out _).mono ?_); rintro e w' ⟨rfl,rfl⟩)))
     go_ret2
     exact ⟨rfl,G⟩
    | true =>
     have hEE : Hid ((⟨WR.toArray⟩ : ByteArray) = S) := Lib.hid (by rw [← hE.out,str_back])

     obtain ⟨y1,rfl⟩ := HYes.out (by simp)
     subst y1
     clear HNo HYes
     go_wp2_with (first | (go_at_call 130; ((with_reducible refine (HK.out _).mono ?_); rintro e w' ⟨rfl,rfl⟩)) | (go_at_call 184; ((with_reducible refine (HS.out _).mono ?_); rintro e w' ⟨rfl,rfl⟩)) | (go_at_call 195; ((with_reducible refine (HV.out _).mono ?_); rintro e w' ⟨rfl,rfl⟩)) | (go_at_call 196; ((with_reducible refine (HF.out _).mono ?_); rintro e w' ⟨rfl,rfl⟩)) | (go_at_call 197; ((with_reducible refine (HQ.out _).mono ?_); rintro e w' ⟨rfl,rfl⟩)))
     go_ret2
     exact ⟨by rw [hEE.out]; rfl,G⟩
  ·have hnz : ((i : Int) != 0) = true := by simpa using hi0
   have hz : (i == 0) = false := by simpa using hi0
   rw [hz,Bool.false_and] at hOK
   have hOK2 : ¬ OK = true := by rw [← hOK]; decide
   obtain ⟨rfl,rfl⟩ := HNo.out hOK2
   clear hOK hOK2 HNo HYes hWR hi0 hz
   go_enter Tryz.func145,Tryz.ntmps145
   go_wp2
   go_ret2
   exact ⟨rfl,B1.out⟩
 by_cases hk5 : k = 5
 ·subst hk5
  rw [if_neg (by decide),if_neg (by decide),if_pos rfl] at hOK
  rw [if_pos (by decide)] at hWR
  by_cases hi0 : i = 0
  ·subst hi0
   simp only [beq_self_eq_true,Bool.true_and] at hOK
   have hE := Lib.hid hWR
   subst hOK
   clear hWR

   go_enter Tryz.func145,Tryz.ntmps145
   go_upto_region 3 with (fail)
   go_cut [4] (fun s wx => s = .bool W ∧ TkC wx w.heap.size 5 S 0 a ∧ Bel w wx)
   case first =>
    rcases HWd.out with ⟨rfl,h⟩ | ⟨rfl,h⟩ | ⟨h1,h2,h⟩
    ·have z1 : S.size = 0 := h
     obtain rfl := empty_str z1
     clear h z1
     go_quiet (fail)
     go_wp2_with fail
     go_meet
     exact ⟨rfl,TkC.on ((TkC.new w 5 0 a ⟨#[]⟩ 54)) (Bel.drewN (Bel.refl _) _),Bel.drewN B1.out _⟩
    ·have z1 : 0 < S.size := by omega
     have z2 : decide ((S.size : Int) ≤ 24) = false := by simp; omega
     go_quiet (fail)
     go_wp2_with fail
     go_meet
     exact ⟨rfl,TkC.on ((TkC.new w 5 0 a S 54)) (Bel.drewN (Bel.refl _) _),Bel.drewN B1.out _⟩
    ·have z1 : 0 < S.size := h1
     have z2 : decide ((S.size : Int) ≤ 24) = true := by simp; omega
     have z3 : decide (0 < S.size) = true := by simp; omega
     go_quiet ((go_at_call 129; exact Calls.quiet_of_same (turn (HR.out _))))
     go_wp2_with fail
     go_meet
     exact ⟨by rw [← h],TkC.on ((TkC.new w 5 0 a S 54)) (Bel.drewN (Bel.refl _) _),Bel.drewN B1.out _⟩
   case rest =>
    obtain ⟨rfl,⟨c1,c2,c3,c4,f1,f2,f3,f4⟩,G⟩ := hcut
    cases SY with
    | false =>
     obtain ⟨rfl,rfl⟩ := HNo.out (by simp)
     clear HNo HYes
     go_wp2_with (first | (go_at_call 130; ((with_reducible refine (HK.out _).mono ?_); rintro e w' ⟨rfl,rfl⟩)) | (go_at_call 184; ((with_reducible refine (HS.out _).mono ?_); rintro e w' ⟨rfl,rfl⟩)) | (go_at_call 195; ((with_reducible refine (HV.out _).mono ?_); rintro e w' ⟨rfl,rfl⟩)) | (go_at_call 196; ((with_reducible refine (HF.out _).mono ?_); rintro e w' ⟨rfl,rfl⟩)) | (go_at_call 197; ((with_reducible refine (HQ.out _).mono ?_); rintro e w' ⟨rfl,rfl⟩)))
     go_ret2
     exact ⟨rfl,G⟩
    | true =>
     have hEE : Hid ((⟨WR.toArray⟩ : ByteArray) = S) := Lib.hid (by rw [← hE.out,str_back])

     obtain ⟨y1,rfl⟩ := HYes.out (by simp)
     subst y1
     clear HNo HYes
     go_wp2_with (first | (go_at_call 130; ((with_reducible refine (HK.out _).mono ?_); rintro e w' ⟨rfl,rfl⟩)) | (go_at_call 184; ((with_reducible refine (HS.out _).mono ?_); rintro e w' ⟨rfl,rfl⟩)) | (go_at_call 195; ((with_reducible refine (HV.out _).mono ?_); rintro e w' ⟨rfl,rfl⟩)) | (go_at_call 196; ((with_reducible refine (HF.out _).mono ?_); rintro e w' ⟨rfl,rfl⟩)) | (go_at_call 197; ((with_reducible refine (HQ.out _).mono ?_); rintro e w' ⟨rfl,rfl⟩)))
     go_ret2
     exact ⟨by rw [hEE.out]; rfl,G⟩
  ·have hnz : ((i : Int) != 0) = true := by simpa using hi0
   have hz : (i == 0) = false := by simpa using hi0
   rw [hz,Bool.false_and] at hOK
   have hOK2 : ¬ OK = true := by rw [← hOK]; decide
   obtain ⟨rfl,rfl⟩ := HNo.out hOK2
   clear hOK hOK2 HNo HYes hWR hi0 hz
   go_enter Tryz.func145,Tryz.ntmps145
   go_wp2
   go_ret2
   exact ⟨rfl,B1.out⟩
 by_cases hk6 : k = 6
 ·subst hk6
  rw [if_neg (by decide),if_neg (by decide),if_neg (by decide),if_pos rfl] at hOK
  rw [if_neg (by decide),if_neg (by decide),if_neg (by decide),if_pos rfl] at hWR
  by_cases hi0 : i = 0
  ·subst hi0
   simp only [beq_self_eq_true,Bool.true_and] at hOK
   have hE := Lib.hid hWR
   subst hOK
   clear hWR

   go_enter Tryz.func145,Tryz.ntmps145
   go_upto_region 3 with (fail)
   go_cut [4] (fun s wx => s = .bool W ∧ TkC wx w.heap.size 6 S 0 a ∧ Bel w wx)
   case first =>
    rcases HWd.out with ⟨rfl,h⟩ | ⟨rfl,h⟩ | ⟨h1,h2,h⟩
    ·have z1 : S.size = 0 := h
     obtain rfl := empty_str z1
     clear h z1
     go_quiet (fail)
     go_wp2_with fail
     go_meet
     exact ⟨rfl,TkC.on ((TkC.new w 6 0 a ⟨#[]⟩ 54)) (Bel.drewN (Bel.refl _) _),Bel.drewN B1.out _⟩
    ·have z1 : 0 < S.size := by omega
     have z2 : decide ((S.size : Int) ≤ 24) = false := by simp; omega
     go_quiet (fail)
     go_wp2_with fail
     go_meet
     exact ⟨rfl,TkC.on ((TkC.new w 6 0 a S 54)) (Bel.drewN (Bel.refl _) _),Bel.drewN B1.out _⟩
    ·have z1 : 0 < S.size := h1
     have z2 : decide ((S.size : Int) ≤ 24) = true := by simp; omega
     have z3 : decide (0 < S.size) = true := by simp; omega
     go_quiet ((go_at_call 129; exact Calls.quiet_of_same (turn (HR.out _))))
     go_wp2_with fail
     go_meet
     exact ⟨by rw [← h],TkC.on ((TkC.new w 6 0 a S 54)) (Bel.drewN (Bel.refl _) _),Bel.drewN B1.out _⟩
   case rest =>
    obtain ⟨rfl,⟨c1,c2,c3,c4,f1,f2,f3,f4⟩,G⟩ := hcut
    cases W with
    | false =>
     obtain ⟨rfl,rfl⟩ := HNo.out (by simp)
     clear HNo HYes
     go_wp2_with (first | (go_at_call 130; ((with_reducible refine (HK.out _).mono ?_); rintro e w' ⟨rfl,rfl⟩)) | (go_at_call 184; ((with_reducible refine (HS.out _).mono ?_); rintro e w' ⟨rfl,rfl⟩)) | (go_at_call 195; ((with_reducible refine (HV.out _).mono ?_); rintro e w' ⟨rfl,rfl⟩)) | (go_at_call 196; ((with_reducible refine (HF.out _).mono ?_); rintro e w' ⟨rfl,rfl⟩)) | (go_at_call 197; ((with_reducible refine (HQ.out _).mono ?_); rintro e w' ⟨rfl,rfl⟩)))
     go_ret2
     exact ⟨rfl,G⟩
    | true =>
     have hEE : Hid ((⟨#[64]⟩ : ByteArray) ++ S = ⟨WR.toArray⟩) := Lib.hid (by rw [← hE.out,cat_lit])

     obtain ⟨y1,rfl⟩ := HYes.out (by simp)
     subst y1
     clear HNo HYes
     go_wp2_with (first | (go_at_call 130; ((with_reducible refine (HK.out _).mono ?_); rintro e w' ⟨rfl,rfl⟩)) | (go_at_call 184; ((with_reducible refine (HS.out _).mono ?_); rintro e w' ⟨rfl,rfl⟩)) | (go_at_call 195; ((with_reducible refine (HV.out _).mono ?_); rintro e w' ⟨rfl,rfl⟩)) | (go_at_call 196; ((with_reducible refine (HF.out _).mono ?_); rintro e w' ⟨rfl,rfl⟩)) | (go_at_call 197; ((with_reducible refine (HQ.out _).mono ?_); rintro e w' ⟨rfl,rfl⟩)))
     go_ret2
     exact ⟨by rw [← hEE.out]; rfl,G⟩
  ·have hnz : ((i : Int) != 0) = true := by simpa using hi0
   have hz : (i == 0) = false := by simpa using hi0
   rw [hz,Bool.false_and] at hOK
   have hOK2 : ¬ OK = true := by rw [← hOK]; decide
   obtain ⟨rfl,rfl⟩ := HNo.out hOK2
   clear hOK hOK2 HNo HYes hWR hi0 hz
   go_enter Tryz.func145,Tryz.ntmps145
   go_wp2
   go_ret2
   exact ⟨rfl,B1.out⟩
 by_cases hk3 : k = 3
 ·subst hk3
  rw [if_neg (by decide),if_neg (by decide),if_neg (by decide),if_neg (by decide),if_pos rfl] at hOK
  rw [if_neg (by decide),if_pos rfl] at hWR
  have hE := Lib.hid hWR
  clear hWR
  by_cases hS0 : S.size = 0
  ·obtain rfl := empty_str hS0
   rw [show (⟨#[]⟩ : ByteArray).toList.isEmpty = true by rw [show (⟨#[]⟩ : ByteArray).toList = [] from tl []]; rfl,Bool.true_and] at hOK
   have HOK := Lib.hid hOK
   have hWf : W = false := by
    rcases HWd.out with ⟨h,_⟩ | ⟨h,_⟩ | ⟨h,_⟩
    ·exact h
    ·exact h
    ·exact absurd h (by rw [show (⟨#[]⟩ : ByteArray).size = 0 from rfl]; omega)
   subst hWf
   clear hOK hS0 HWd HR
   go_enter Tryz.func145,Tryz.ntmps145
   go_upto_region 3 with (fail)
   go_cut [4] (fun s wx => s = .bool false ∧ TkC wx w.heap.size 3 ⟨#[]⟩ i a ∧ Bel w wx)
   case first =>
    go_quiet (fail)
    go_wp2_with fail
    go_meet
    exact ⟨rfl,TkC.on ((TkC.new w 3 i a ⟨#[]⟩ 54)) (Bel.drewN (Bel.refl _) _),Bel.drewN B1.out _⟩
   case rest =>
    obtain ⟨rfl,⟨c1,c2,c3,c4,f1,f2,f3,f4⟩,G⟩ := hcut
    by_cases hpos : 0 ≤ i
    ·cases hv : Num.vld i with
     | true =>
      have hb := vld_parts hv
      have hok : true = OK := by rw [← HOK.out,decide_eq_true hpos,decide_eq_true hb.2]; rfl
      rw [hv] at HV
      subst hok
      clear hv HOK hb
      have hWE := Lib.hid hE.out.symm
      obtain ⟨y1,rfl⟩ := HYes.out (by simp)
      subst y1
      clear HNo HYes
      go_wp2_with (first | (go_at_call 130; ((with_reducible refine (HK.out _).mono ?_); rintro e w' ⟨rfl,rfl⟩)) | (go_at_call 184; ((with_reducible refine (HS.out _).mono ?_); rintro e w' ⟨rfl,rfl⟩)) | (go_at_call 195; ((with_reducible refine (HV.out _).mono ?_); rintro e w' ⟨rfl,rfl⟩)) | (go_at_call 196; ((with_reducible refine (HF.out _).mono ?_); rintro e w' ⟨rfl,rfl⟩)) | (go_at_call 197; ((with_reducible refine (HQ.out _).mono ?_); rintro e w' ⟨rfl,rfl⟩)))
      go_ret2
      exact ⟨by rw [hWE.out]; rfl,G⟩
     | false =>
      have hok : OK = false := by
       rw [← HOK.out,decide_eq_true hpos,Bool.true_and]
       apply decide_eq_false
       intro h
       rw [Num.vld_of (by omega) h] at hv
       cases hv
      rw [hv] at HV
      subst hok
      clear hv HOK
      obtain ⟨rfl,rfl⟩ := HNo.out (by simp)
      clear HNo HYes
      go_wp2_with (first | (go_at_call 130; ((with_reducible refine (HK.out _).mono ?_); rintro e w' ⟨rfl,rfl⟩)) | (go_at_call 184; ((with_reducible refine (HS.out _).mono ?_); rintro e w' ⟨rfl,rfl⟩)) | (go_at_call 195; ((with_reducible refine (HV.out _).mono ?_); rintro e w' ⟨rfl,rfl⟩)) | (go_at_call 196; ((with_reducible refine (HF.out _).mono ?_); rintro e w' ⟨rfl,rfl⟩)) | (go_at_call 197; ((with_reducible refine (HQ.out _).mono ?_); rintro e w' ⟨rfl,rfl⟩)))
      go_ret2
      exact ⟨rfl,G⟩
    ·have hok : OK = false := by rw [← HOK.out,decide_eq_false hpos]; rfl
     subst hok
     clear HOK
     obtain ⟨rfl,rfl⟩ := HNo.out (by simp)
     clear HNo HYes
     go_wp2_with (first | (go_at_call 130; ((with_reducible refine (HK.out _).mono ?_); rintro e w' ⟨rfl,rfl⟩)) | (go_at_call 184; ((with_reducible refine (HS.out _).mono ?_); rintro e w' ⟨rfl,rfl⟩)) | (go_at_call 195; ((with_reducible refine (HV.out _).mono ?_); rintro e w' ⟨rfl,rfl⟩)) | (go_at_call 196; ((with_reducible refine (HF.out _).mono ?_); rintro e w' ⟨rfl,rfl⟩)) | (go_at_call 197; ((with_reducible refine (HQ.out _).mono ?_); rintro e w' ⟨rfl,rfl⟩)))
     go_ret2
     exact ⟨rfl,G⟩
  ·obtain ⟨hne,hne2⟩ := str_ne (T := S) (by omega)
   rw [hne,Bool.false_and] at hOK
   subst hOK
   clear hS0
   go_enter Tryz.func145,Tryz.ntmps145
   go_upto_region 3 with (fail)
   go_cut [4] (fun s wx => s = .bool W ∧ TkC wx w.heap.size 3 S i a ∧ Bel w wx)
   case first =>
    rcases HWd.out with ⟨rfl,h⟩ | ⟨rfl,h⟩ | ⟨h1,h2,h⟩
    ·have z1 : S.size = 0 := h
     obtain rfl := empty_str z1
     clear h z1
     go_quiet (fail)
     go_wp2_with fail
     go_meet
     exact ⟨rfl,TkC.on ((TkC.new w 3 i a ⟨#[]⟩ 54)) (Bel.drewN (Bel.refl _) _),Bel.drewN B1.out _⟩
    ·have z1 : 0 < S.size := by omega
     have z2 : decide ((S.size : Int) ≤ 24) = false := by simp; omega
     go_quiet (fail)
     go_wp2_with fail
     go_meet
     exact ⟨rfl,TkC.on ((TkC.new w 3 i a S 54)) (Bel.drewN (Bel.refl _) _),Bel.drewN B1.out _⟩
    ·have z1 : 0 < S.size := h1
     have z2 : decide ((S.size : Int) ≤ 24) = true := by simp; omega
     have z3 : decide (0 < S.size) = true := by simp; omega
     go_quiet ((go_at_call 129; exact Calls.quiet_of_same (turn (HR.out _))))
     go_wp2_with fail
     go_meet
     exact ⟨by rw [← h],TkC.on ((TkC.new w 3 i a S 54)) (Bel.drewN (Bel.refl _) _),Bel.drewN B1.out _⟩
   case rest =>
    obtain ⟨rfl,⟨c1,c2,c3,c4,f1,f2,f3,f4⟩,G⟩ := hcut
    obtain ⟨rfl,rfl⟩ := HNo.out (by simp)
    clear HNo HYes
    go_wp2_with (first | (go_at_call 130; ((with_reducible refine (HK.out _).mono ?_); rintro e w' ⟨rfl,rfl⟩)) | (go_at_call 184; ((with_reducible refine (HS.out _).mono ?_); rintro e w' ⟨rfl,rfl⟩)) | (go_at_call 195; ((with_reducible refine (HV.out _).mono ?_); rintro e w' ⟨rfl,rfl⟩)) | (go_at_call 196; ((with_reducible refine (HF.out _).mono ?_); rintro e w' ⟨rfl,rfl⟩)) | (go_at_call 197; ((with_reducible refine (HQ.out _).mono ?_); rintro e w' ⟨rfl,rfl⟩)))
    go_ret2
    exact ⟨rfl,G⟩
 by_cases hk4 : k = 4
 ·subst hk4
  rw [if_neg (by decide),if_neg (by decide),if_neg (by decide),if_neg (by decide),if_neg (by decide),if_pos rfl] at hOK
  rw [if_neg (by decide),if_neg (by decide),if_pos rfl] at hWR
  by_cases hi0 : i = 0
  ·subst hi0
   simp only [beq_self_eq_true,Bool.true_and] at hOK
   have hE := Lib.hid hWR
   have hq : quoV S.toList = if S.toList.all printB then .returned (.tuple #[.string ⟨WR.toArray⟩,.bool (decide (S.size ≤ 200))]) else .returned (.tuple #[.string ⟨#[]⟩,.bool false]) := by unfold quoV; rw [toL_len,← hWR]
   rw [hq] at HQ
   rw [toL_len] at hOK
   generalize S.toList.all printB = PB at hOK HQ
   subst hOK
   clear hWR hq

   go_enter Tryz.func145,Tryz.ntmps145
   go_upto_region 3 with (fail)
   go_cut [4] (fun s wx => s = .bool W ∧ TkC wx w.heap.size 4 S 0 a ∧ Bel w wx)
   case first =>
    rcases HWd.out with ⟨rfl,h⟩ | ⟨rfl,h⟩ | ⟨h1,h2,h⟩
    ·have z1 : S.size = 0 := h
     obtain rfl := empty_str z1
     clear h z1
     go_quiet (fail)
     go_wp2_with fail
     go_meet
     exact ⟨rfl,TkC.on ((TkC.new w 4 0 a ⟨#[]⟩ 54)) (Bel.drewN (Bel.refl _) _),Bel.drewN B1.out _⟩
    ·have z1 : 0 < S.size := by omega
     have z2 : decide ((S.size : Int) ≤ 24) = false := by simp; omega
     go_quiet (fail)
     go_wp2_with fail
     go_meet
     exact ⟨rfl,TkC.on ((TkC.new w 4 0 a S 54)) (Bel.drewN (Bel.refl _) _),Bel.drewN B1.out _⟩
    ·have z1 : 0 < S.size := h1
     have z2 : decide ((S.size : Int) ≤ 24) = true := by simp; omega
     have z3 : decide (0 < S.size) = true := by simp; omega
     go_quiet ((go_at_call 129; exact Calls.quiet_of_same (turn (HR.out _))))
     go_wp2_with fail
     go_meet
     exact ⟨by rw [← h],TkC.on ((TkC.new w 4 0 a S 54)) (Bel.drewN (Bel.refl _) _),Bel.drewN B1.out _⟩
   case rest =>
    obtain ⟨rfl,⟨c1,c2,c3,c4,f1,f2,f3,f4⟩,G⟩ := hcut
    cases PB with
    | false =>
     rw [if_neg (by decide)] at HQ
     simp only [Bool.false_and] at HNo HYes

     obtain ⟨rfl,rfl⟩ := HNo.out (by simp)
     clear HNo HYes
     go_wp2_with (first | (go_at_call 130; ((with_reducible refine (HK.out _).mono ?_); rintro e w' ⟨rfl,rfl⟩)) | (go_at_call 184; ((with_reducible refine (HS.out _).mono ?_); rintro e w' ⟨rfl,rfl⟩)) | (go_at_call 195; ((with_reducible refine (HV.out _).mono ?_); rintro e w' ⟨rfl,rfl⟩)) | (go_at_call 196; ((with_reducible refine (HF.out _).mono ?_); rintro e w' ⟨rfl,rfl⟩)) | (go_at_call 197; ((with_reducible refine (HQ.out _).mono ?_); rintro e w' ⟨rfl,rfl⟩)))
     go_ret2
     exact ⟨rfl,G⟩
    | true =>
     rw [if_pos rfl] at HQ
     simp only [Bool.true_and] at HNo HYes
     by_cases h200 : S.size ≤ 200
     ·rw [decide_eq_true h200] at HQ HNo HYes
      obtain ⟨y1,rfl⟩ := HYes.out (by simp)
      subst y1
      clear HNo HYes
      go_wp2_with (first | (go_at_call 130; ((with_reducible refine (HK.out _).mono ?_); rintro e w' ⟨rfl,rfl⟩)) | (go_at_call 184; ((with_reducible refine (HS.out _).mono ?_); rintro e w' ⟨rfl,rfl⟩)) | (go_at_call 195; ((with_reducible refine (HV.out _).mono ?_); rintro e w' ⟨rfl,rfl⟩)) | (go_at_call 196; ((with_reducible refine (HF.out _).mono ?_); rintro e w' ⟨rfl,rfl⟩)) | (go_at_call 197; ((with_reducible refine (HQ.out _).mono ?_); rintro e w' ⟨rfl,rfl⟩)))
      go_ret2
      exact ⟨rfl,G⟩
     ·rw [decide_eq_false h200] at HQ HNo HYes
      obtain ⟨rfl,rfl⟩ := HNo.out (by simp)
      clear HNo HYes
      go_wp2_with (first | (go_at_call 130; ((with_reducible refine (HK.out _).mono ?_); rintro e w' ⟨rfl,rfl⟩)) | (go_at_call 184; ((with_reducible refine (HS.out _).mono ?_); rintro e w' ⟨rfl,rfl⟩)) | (go_at_call 195; ((with_reducible refine (HV.out _).mono ?_); rintro e w' ⟨rfl,rfl⟩)) | (go_at_call 196; ((with_reducible refine (HF.out _).mono ?_); rintro e w' ⟨rfl,rfl⟩)) | (go_at_call 197; ((with_reducible refine (HQ.out _).mono ?_); rintro e w' ⟨rfl,rfl⟩)))
      go_ret2
      exact ⟨rfl,G⟩
  ·have hnz : ((i : Int) != 0) = true := by simpa using hi0
   have hz : (i == 0) = false := by simpa using hi0
   rw [hz,Bool.false_and] at hOK
   have hOK2 : ¬ OK = true := by rw [← hOK]; decide
   obtain ⟨rfl,rfl⟩ := HNo.out hOK2
   clear hOK hOK2 HNo HYes hWR hi0 hz
   go_enter Tryz.func145,Tryz.ntmps145
   go_wp2
   go_ret2
   exact ⟨rfl,B1.out⟩
 simp only [hk1,hk2,hk5,hk6,hk3,hk4,if_false] at hOK
 subst hOK
 have e1 : (k == 1) = false := by simpa using hk1
 have e2 : (k == 2) = false := by simpa using hk2
 have e3 : (k == 3) = false := by simpa using hk3
 have e4 : (k == 4) = false := by simpa using hk4
 have e5 : (k == 5) = false := by simpa using hk5
 have e6 : (k == 6) = false := by simpa using hk6
 have e7 : (k != 3) = true := by simpa using hk3
 clear hk1 hk2 hk3 hk4 hk5 hk6 hWR
 by_cases hi0 : i = 0
 ·subst hi0
  go_enter Tryz.func145,Tryz.ntmps145
  go_upto_region 3 with (fail)
  go_cut [4] (fun s wx => s = .bool W ∧ TkC wx w.heap.size k S 0 a ∧ Bel w wx)
  case first =>
   rcases HWd.out with ⟨rfl,h⟩ | ⟨rfl,h⟩ | ⟨h1,h2,h⟩
   ·have z1 : S.size = 0 := h
    obtain rfl := empty_str z1
    clear h z1
    go_quiet (fail)
    go_wp2_with fail
    go_meet
    exact ⟨rfl,TkC.on ((TkC.new w k 0 a ⟨#[]⟩ 54)) (Bel.drewN (Bel.refl _) _),Bel.drewN B1.out _⟩
   ·have z1 : 0 < S.size := by omega
    have z2 : decide ((S.size : Int) ≤ 24) = false := by simp; omega
    go_quiet (fail)
    go_wp2_with fail
    go_meet
    exact ⟨rfl,TkC.on ((TkC.new w k 0 a S 54)) (Bel.drewN (Bel.refl _) _),Bel.drewN B1.out _⟩
   ·have z1 : 0 < S.size := h1
    have z2 : decide ((S.size : Int) ≤ 24) = true := by simp; omega
    have z3 : decide (0 < S.size) = true := by simp; omega
    go_quiet ((go_at_call 129; exact Calls.quiet_of_same (turn (HR.out _))))
    go_wp2_with fail
    go_meet
    exact ⟨by rw [← h],TkC.on ((TkC.new w k 0 a S 54)) (Bel.drewN (Bel.refl _) _),Bel.drewN B1.out _⟩
  case rest =>
   obtain ⟨rfl,⟨c1,c2,c3,c4,f1,f2,f3,f4⟩,G⟩ := hcut
   obtain ⟨rfl,rfl⟩ := HNo.out (by simp)
   clear HNo HYes
   go_wp2_with (first | (go_at_call 130; ((with_reducible refine (HK.out _).mono ?_); rintro e w' ⟨rfl,rfl⟩)) | (go_at_call 184; ((with_reducible refine (HS.out _).mono ?_); rintro e w' ⟨rfl,rfl⟩)) | (go_at_call 195; ((with_reducible refine (HV.out _).mono ?_); rintro e w' ⟨rfl,rfl⟩)) | (go_at_call 196; ((with_reducible refine (HF.out _).mono ?_); rintro e w' ⟨rfl,rfl⟩)) | (go_at_call 197; ((with_reducible refine (HQ.out _).mono ?_); rintro e w' ⟨rfl,rfl⟩)))
   go_ret2
   exact ⟨rfl,G⟩
 ·have hnz : ((i : Int) != 0) = true := by simpa using hi0
  obtain ⟨rfl,rfl⟩ := HNo.out (by simp)
  clear HNo HYes hi0
  go_enter Tryz.func145,Tryz.ntmps145
  go_wp2
  go_ret2
  exact ⟨rfl,B1.out⟩

def fil (D : List ByteArray) (i : Nat) : Value := .string (D.getD i ByteArray.empty)
theorem fil_step {w : World} {B cnt k : Nat} {D : List ByteArray} {x : ByteArray} (h : w.rowIs B 9 cnt (fil D)) (hD : D.length = k) : (w.setCell ⟨B,k,none⟩ (.string x)).rowIs B 9 cnt (fil (D ++ [x])) :=
 (h.set k (.string x)).congr fun i _ => by
  subst hD
  simp only [fil,List.getD]
  by_cases e : i = D.length
  ·subst e; simp
  ·rw [if_neg e]
   rcases Nat.lt_or_ge i D.length with g | g
   ·rw [List.getElem?_append_left g]
   ·have e1 : (D ++ [x])[i]? = none := List.getElem?_eq_none (by rw [List.length_append,List.length_singleton]; omega)
    have e2 : D[i]? = none := List.getElem?_eq_none g
    rw [e1,e2]
theorem info_str : (Tryz.prog.info? 9).map (fun i => (i.zero,i.size,i.bytes)) = some (some (.string ByteArray.empty),1,16) := by kernel_rfl
theorem row_on {w w' : World} {B n : Nat} {t : TypeId} {f : Nat → Value} (h : w.rowIs B t n f) (hb : B < w.heap.size) (b : Bel w w') : w'.rowIs B t n f := h.of_block (b.block B hb)
end Lex
end Go.Proofs.YtcapkeaedpabjaaGreatDoor
