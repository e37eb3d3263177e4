/-
  Layer 8, texts merged: SwA, SwB. For every argument within the bounds that each theorem names.
-/
import Derived.Test.YtcapkeaedpabjaaGreatDoorYJ1
import Derived.Test.YtcapkeaedpabjaaGreatDoorYH1
set_option maxRecDepth 100000
set_option maxHeartbeats 16000000

/-
 Layer 8, the reference: row; written at lists, calls and literals, on top of what operand says.
-/
namespace Go.Proofs.YtcapkeaedpabjaaGreatDoor
open Go.RowKit Go.ChangeShapes Go.WideShapes
namespace Syn
theorem join_take (Xs : List Txt) (sp : Txt) : ∀ q,q < Xs.length → Lib.join (Xs.take (q + 1)) sp = (if q = 0 then [] else Lib.join (Xs.take q) sp ++ sp) ++ Xs.getD q [] := by
 intro q hq
 cases Xs with
 | nil => exact absurd hq (Nat.not_lt_zero q)
 | cons x r =>
  cases q with
  | zero => rw [if_pos rfl,List.nil_append,List.take_succ_cons,List.take_zero,Lib.join_one]; rfl
  | succ p =>
   have hp : p < r.length := by simpa using hq
   rw [if_neg (by omega),List.take_succ_cons,List.take_succ_cons,Lib.join_cons,Lib.join_cons,Lib.joinTail_take_succ sp r p r[p] (List.getElem?_eq_getElem hp),List.getD_cons_succ,List.getD_eq_getElem?_getD,List.getElem?_eq_getElem hp,Option.getD_some]
   simp
theorem join_take_le (Xs : List Txt) (sp : Txt) (q : Nat) : (Lib.join (Xs.take q) sp).length ≤ (Lib.join Xs sp).length := by
 cases Xs with
 | nil => simp
 | cons x r =>
  cases q with
  | zero => rw [List.take_zero,Lib.join_nil]; exact Nat.zero_le _
  | succ p =>
   rw [List.take_succ_cons,Lib.join_cons,Lib.join_cons,List.length_append,List.length_append]
   have := Lib.joinTail_take_le sp r p
   omega
theorem join_at_le (Xs : List Txt) (sp : Txt) (q : Nat) (hq : q < Xs.length) : (Xs.getD q []).length ≤ (Lib.join Xs sp).length := by
 have h1 := join_take_le Xs sp (q + 1)
 rw [join_take Xs sp q hq,List.length_append] at h1
 omega
theorem rrow_any (no : Option Addr) (n nc : Nat) (jo : Option Addr) (jn jc : Nat) (hj : jn ≤ 1000000) (kids : List Int) (Xs : List Txt) (hl : Xs.length = kids.length) (hX : (Lib.join Xs [44,32]).length ≤ 1000000000) (w : World) (hk : ZArg w jo jn kids)
  (hb : ∀ j (h : j < kids.length) (h' : j < Xs.length) (W : World),Bel w W → Calls Tryz.prog 153 #[.slice no n nc,.int .i64 kids[j],.int .i64 1] W fun e w' => e = .returned (.string ⟨Xs[j].toArray⟩) ∧ Bel W w') :
  Calls Tryz.prog 250 #[.slice no n nc,.slice jo jn jc] w fun e w' => e = .returned (.string ⟨(Lib.join Xs [44,32]).toArray⟩) ∧ Bel w w' := by
 have hkl := hk.1
 have HK := Lib.hid hk
 have HL := Lib.hid hl
 have HX := Lib.hid hX
 have Hb := Lib.hid hb
 have Hkl := Lib.hid hkl
 clear hk hl hX hb hkl
 go_enter Tryz.func250,Tryz.ntmps250
 go_wp2_with fail
 go_loopw [5,6] (fun tv iv wr => ∃ (q : Nat) (T : ByteArray),tv = .string T ∧ iv = .int .i64 (q : Int) ∧ q ≤ jn ∧ Hid (T.toList = Lib.join (Xs.take q) [44,32]) ∧ Hid (Bel w wr)) (fun _ iv _ => jn - (intOf iv).toNat)
 case atStart => exact ⟨0,_,rfl,rfl,Nat.zero_le _,Lib.hid (by rw [List.take_zero]; exact tlB _),Lib.hid (Bel.refl _)⟩
 case round =>
  obtain ⟨q,T,rfl,rfl,hq,HT,HB⟩ := hrel
  rename World => wr
  have hTs : T.size ≤ 1000000000 := by
   rw [← Lex.toL_len,HT.out]
   exact Nat.le_trans (join_take_le Xs _ q) HX.out
  rcases Nat.lt_or_ge q jn with hqn | hqn
  ·have hqk : q < kids.length := by rw [Hkl.out]; exact hqn
   have hqX : q < Xs.length := by rw [HL.out]; exact hqk
   obtain ⟨kb,ko,rfl,hkc⟩ := za_addr HK.out (by omega)
   have c0 := HB.out.cell' (hkc q hqk)
   have HC := Lib.hid (Hb.out q hqk hqX wr HB.out)
   have hjt := join_take Xs [44,32] q hqX
   have hle := join_at_le Xs [44,32] q hqX
   rw [List.getD_eq_getElem?_getD,List.getElem?_eq_getElem hqX,Option.getD_some] at hjt hle
   have hle2 := HX.out
   obtain ⟨Xb,hXb⟩ : ∃ Xb : ByteArray,⟨Xs[q].toArray⟩ = Xb := ⟨_,rfl⟩
   have hXs : Xb.size ≤ 1000000000 := by rw [← hXb,← Lex.toL_len,tlB]; omega
   have hXl : Xb.toList = Xs[q] := by rw [← hXb]; exact tlB _
   rw [hXb] at HC
   rw [← hXl,← HT.out] at hjt
   generalize kids[q] = z at *
   have hq1 : (q : Int) < (jn : Int) := by omega
   have hq0 : (0 : Int) ≤ (q : Int) := by omega
   clear hkc hXb hXl hle hle2
   by_cases h0 : q = 0
   ·subst h0
    rw [Nat.add_zero] at c0
    rw [if_pos rfl,List.nil_append] at hjt
    have hT0 : T.toList = [] := HT.out
    have HT2 := Lib.hid (show (T ++ Xb).toList = Lib.join (Xs.take 1) [44,32] by
     rw [show Xs.take 1 = Xs.take (0 + 1) from rfl,hjt,← List.nil_append Xb.toList,← hT0]
     simp [Go.ByteArray.toList_eq])
    have f1 : (9223372036854775807 < T.size + Xb.size) = False := eq_false (by omega)
    clear hjt hT0 HT
    go_wp2_with fail
    refine HC.out.mono ?_
    rintro e w2 ⟨rfl,g⟩
    have G := Lib.hid (Bel.trans HB.out g)
    clear g
    go_wp2_with fail
    go_round
    case rel => exact ⟨1,_,rfl,by go_num,by omega,HT2,G⟩
    case measure => first | (simp [intOf]; done) | (simp [intOf]; omega)
   ·rw [if_neg h0] at hjt
    have HT2 := Lib.hid (show (T ++ ⟨#[44,32]⟩ ++ Xb).toList = Lib.join (Xs.take (q + 1)) [44,32] by
     rw [hjt]
     simp [Go.ByteArray.toList_eq])
    have f0 : (9223372036854775807 < T.size + 2) = False := eq_false (by omega)
    have f1 : (9223372036854775807 < T.size + 2 + Xb.size) = False := eq_false (by omega)
    have h0' : (0 : Int) < (q : Int) := by omega
    clear hjt HT h0
    go_wp2_with fail
    refine HC.out.mono ?_
    rintro e w2 ⟨rfl,g⟩
    have G := Lib.hid (Bel.trans HB.out g)
    clear g
    go_wp2_with fail
    go_round
    case rel => exact ⟨q + 1,_,rfl,by go_num,by omega,HT2,G⟩
    case measure => first | (simp [intOf]; done) | (simp [intOf]; omega)
  ·obtain rfl : q = jn := by omega
   have hT2 : T = ⟨(Lib.join Xs [44,32]).toArray⟩ := by
    have := HT.out
    rw [List.take_of_length_le (by rw [HL.out,Hkl.out]; exact Nat.le_refl _)] at this
    rw [← this]
    exact (Lex.str_back T).symm
   have HT2 := Lib.hid hT2
   clear hT2 HT
   go_wp2_with fail
   go_ret
   exact ⟨by rw [← HT2.out]; rfl,HB.out⟩
theorem rwrSq_any (no : Option Addr) (n nc : Nat) (s : Txt) (i : Int) (ko jo : Option Addr) (kn kc jn jc : Nat) (X : Txt) (hX : X.length ≤ 1000000000) (w : World)
  (hl : ∀ W,Bel w W → Calls Tryz.prog 250 #[.slice no n nc,.slice jo jn jc] W fun e w' => e = .returned (.string ⟨X.toArray⟩) ∧ Bel W w') :
  Calls Tryz.prog 203 #[.slice no n nc,.agg #[.int .i64 6,.string ⟨s.toArray⟩,.int .i64 i,.slice ko kn kc,.slice jo jn jc]] w fun e w' => e = .returned (.string ⟨(91 :: (X ++ [93])).toArray⟩) ∧ Bel w w' := by
 obtain ⟨V,hV⟩ : ∃ V,w.alloc (.cells #[.int .i64 6,.string ⟨s.toArray⟩,.int .i64 i,.slice ko kn kc,.slice jo jn jc] 65) = V := ⟨_,rfl⟩
 have BV : Bel w V := by rw [← hV]; exact Bel.alloc (Bel.refl w) _
 obtain ⟨y0,y1,y2,y3,y4⟩ : V.cell? ⟨w.heap.size,0,none⟩ = some (.int .i64 6) ∧ V.cell? ⟨w.heap.size,1,none⟩ = some (.string ⟨s.toArray⟩) ∧ V.cell? ⟨w.heap.size,2,none⟩ = some (.int .i64 i) ∧ V.cell? ⟨w.heap.size,3,none⟩ = some (.slice ko kn kc) ∧ V.cell? ⟨w.heap.size,4,none⟩ = some (.slice jo jn jc) := by rw [← hV]; exact box5 w _ _ _ _ _ _
 have HB := Lib.hid BV
 have HVe := Lib.hid hV
 have HL := Lib.hid (hl V BV)
 have h1 : (9223372036854775807 < 1 + X.length) = False := eq_false (by omega)
 have h2 : (9223372036854775807 < 1 + X.length + 1) = False := eq_false (by omega)
 clear hl BV hX hV
 go_enter Tryz.func203,Tryz.ntmps203
 go_wp2_with fail
 rw [HVe.out]
 refine HL.out.mono ?_
 rintro e w2 ⟨rfl,g⟩
 have G := Lib.hid (Bel.trans HB.out g)
 clear g
 go_wp2_with fail
 go_ret
 exact ⟨by simp [ByteArray.ext_iff],G.out⟩
theorem rwrCall_any (no : Option Addr) (n nc : Nat) (s : Txt) (i : Int) (ko jo : Option Addr) (kn kc jn jc : Nat) (hs : s.length ≤ 1000000000) (X : Txt) (hX : X.length ≤ 1000000000) (w : World)
  (hl : ∀ W,Bel w W → Calls Tryz.prog 250 #[.slice no n nc,.slice jo jn jc] W fun e w' => e = .returned (.string ⟨X.toArray⟩) ∧ Bel W w') :
  Calls Tryz.prog 203 #[.slice no n nc,.agg #[.int .i64 11,.string ⟨s.toArray⟩,.int .i64 i,.slice ko kn kc,.slice jo jn jc]] w fun e w' => e = .returned (.string ⟨((s ++ 40 :: (X ++ [41]))).toArray⟩) ∧ Bel w w' := by
 obtain ⟨V,hV⟩ : ∃ V,w.alloc (.cells #[.int .i64 11,.string ⟨s.toArray⟩,.int .i64 i,.slice ko kn kc,.slice jo jn jc] 65) = V := ⟨_,rfl⟩
 have BV : Bel w V := by rw [← hV]; exact Bel.alloc (Bel.refl w) _
 obtain ⟨y0,y1,y2,y3,y4⟩ : V.cell? ⟨w.heap.size,0,none⟩ = some (.int .i64 11) ∧ V.cell? ⟨w.heap.size,1,none⟩ = some (.string ⟨s.toArray⟩) ∧ V.cell? ⟨w.heap.size,2,none⟩ = some (.int .i64 i) ∧ V.cell? ⟨w.heap.size,3,none⟩ = some (.slice ko kn kc) ∧ V.cell? ⟨w.heap.size,4,none⟩ = some (.slice jo jn jc) := by rw [← hV]; exact box5 w _ _ _ _ _ _
 have HB := Lib.hid BV
 have HVe := Lib.hid hV
 have HL := Lib.hid (show ∀ W,(W.cell? ⟨w.heap.size,0,none⟩ = some (.int .i64 11) ∧ W.cell? ⟨w.heap.size,1,none⟩ = some (.string ⟨s.toArray⟩) ∧ W.cell? ⟨w.heap.size,4,none⟩ = some (.slice jo jn jc) ∧ Bel V W) → Calls Tryz.prog 250 #[.slice no n nc,.slice jo jn jc] W fun e w' => e = .returned (.string ⟨X.toArray⟩) ∧ w'.cell? ⟨w.heap.size,0,none⟩ = some (.int .i64 11) ∧ w'.cell? ⟨w.heap.size,1,none⟩ = some (.string ⟨s.toArray⟩) ∧ w'.cell? ⟨w.heap.size,4,none⟩ = some (.slice jo jn jc) ∧ Bel V w' from fun W hS => (hl W (Bel.trans HB.out hS.2.2.2)).mono fun e w' q => ⟨q.1,q.2.cell' hS.1,q.2.cell' hS.2.1,q.2.cell' hS.2.2.1,Bel.trans hS.2.2.2 q.2⟩)
 have h1 : (9223372036854775807 < s.length + 1) = False := eq_false (by omega)
 have h2 : (9223372036854775807 < s.length + 1 + X.length) = False := eq_false (by omega)
 have h3 : (9223372036854775807 < s.length + 1 + X.length + 1) = False := eq_false (by omega)
 clear hl BV hX hs hV
 go_enter Tryz.func203,Tryz.ntmps203
 go_wp2_with fail
 rw [HVe.out]
 go_region_held3 (fun W => W.cell? ⟨w.heap.size,0,none⟩ = some (.int .i64 11) ∧ W.cell? ⟨w.heap.size,1,none⟩ = some (.string ⟨s.toArray⟩) ∧ W.cell? ⟨w.heap.size,4,none⟩ = some (.slice jo jn jc) ∧ Bel V W) (first | exact ⟨a1,a2,a3,a4⟩ | exact ⟨y0,y1,y4,Below.drew (Bel.refl _)⟩) (first | (go_at_call 250; (with_reducible refine (HL.out _ ?_).mono ?_); (first | assumption | exact ⟨y0,y1,y4,Below.drew (Bel.refl _)⟩); rintro e w' ⟨rfl,a1,a2,a3,a4⟩))
 all_goals
  have A6 := Lib.hid a4
  go_wp2_with fail
  go_ret
  exact ⟨by simp [ByteArray.ext_iff],Bel.trans HB.out A6.out⟩
theorem rwrHost_any (no : Option Addr) (n nc : Nat) (s : Txt) (i : Int) (ko jo : Option Addr) (kn kc jn jc : Nat) (hs : s.length ≤ 1000000000) (X : Txt) (hX : X.length ≤ 1000000000) (w : World)
  (hl : ∀ W,Bel w W → Calls Tryz.prog 250 #[.slice no n nc,.slice jo jn jc] W fun e w' => e = .returned (.string ⟨X.toArray⟩) ∧ Bel W w') :
  Calls Tryz.prog 203 #[.slice no n nc,.agg #[.int .i64 12,.string ⟨s.toArray⟩,.int .i64 i,.slice ko kn kc,.slice jo jn jc]] w fun e w' => e = .returned (.string ⟨(64 :: (s ++ 40 :: (X ++ [41]))).toArray⟩) ∧ Bel w w' := by
 obtain ⟨V,hV⟩ : ∃ V,w.alloc (.cells #[.int .i64 12,.string ⟨s.toArray⟩,.int .i64 i,.slice ko kn kc,.slice jo jn jc] 65) = V := ⟨_,rfl⟩
 have BV : Bel w V := by rw [← hV]; exact Bel.alloc (Bel.refl w) _
 obtain ⟨y0,y1,y2,y3,y4⟩ : V.cell? ⟨w.heap.size,0,none⟩ = some (.int .i64 12) ∧ V.cell? ⟨w.heap.size,1,none⟩ = some (.string ⟨s.toArray⟩) ∧ V.cell? ⟨w.heap.size,2,none⟩ = some (.int .i64 i) ∧ V.cell? ⟨w.heap.size,3,none⟩ = some (.slice ko kn kc) ∧ V.cell? ⟨w.heap.size,4,none⟩ = some (.slice jo jn jc) := by rw [← hV]; exact box5 w _ _ _ _ _ _
 have HB := Lib.hid BV
 have HVe := Lib.hid hV
 have HL := Lib.hid (show ∀ W,(W.cell? ⟨w.heap.size,0,none⟩ = some (.int .i64 12) ∧ W.cell? ⟨w.heap.size,1,none⟩ = some (.string ⟨s.toArray⟩) ∧ W.cell? ⟨w.heap.size,4,none⟩ = some (.slice jo jn jc) ∧ Bel V W) → Calls Tryz.prog 250 #[.slice no n nc,.slice jo jn jc] W fun e w' => e = .returned (.string ⟨X.toArray⟩) ∧ w'.cell? ⟨w.heap.size,0,none⟩ = some (.int .i64 12) ∧ w'.cell? ⟨w.heap.size,1,none⟩ = some (.string ⟨s.toArray⟩) ∧ w'.cell? ⟨w.heap.size,4,none⟩ = some (.slice jo jn jc) ∧ Bel V w' from fun W hS => (hl W (Bel.trans HB.out hS.2.2.2)).mono fun e w' q => ⟨q.1,q.2.cell' hS.1,q.2.cell' hS.2.1,q.2.cell' hS.2.2.1,Bel.trans hS.2.2.2 q.2⟩)
 have h1 : (9223372036854775807 < 1 + s.length) = False := eq_false (by omega)
 have h2 : (9223372036854775807 < 1 + s.length + 1) = False := eq_false (by omega)
 have h3 : (9223372036854775807 < 1 + s.length + 1 + X.length) = False := eq_false (by omega)
 have h4 : (9223372036854775807 < 1 + s.length + 1 + X.length + 1) = False := eq_false (by omega)
 clear hl BV hX hs hV
 go_enter Tryz.func203,Tryz.ntmps203
 go_wp2_with fail
 rw [HVe.out]
 go_region_held3 (fun W => W.cell? ⟨w.heap.size,0,none⟩ = some (.int .i64 12) ∧ W.cell? ⟨w.heap.size,1,none⟩ = some (.string ⟨s.toArray⟩) ∧ W.cell? ⟨w.heap.size,4,none⟩ = some (.slice jo jn jc) ∧ Bel V W) (first | exact ⟨a1,a2,a3,a4⟩ | exact ⟨y0,y1,y4,Below.drew (Bel.refl _)⟩) (first | (go_at_call 250; (with_reducible refine (HL.out _ ?_).mono ?_); (first | assumption | exact ⟨y0,y1,y4,Below.drew (Bel.refl _)⟩); rintro e w' ⟨rfl,a1,a2,a3,a4⟩))
 all_goals
  have A6 := Lib.hid a4
  go_wp2_with fail
  go_ret
  exact ⟨by simp [ByteArray.ext_iff],Bel.trans HB.out A6.out⟩
theorem rwrNull_any (no : Option Addr) (n nc : Nat) (s : Txt) (i : Int) (ko jo : Option Addr) (kn kc jn jc : Nat) (w : World) :
  Calls Tryz.prog 203 #[.slice no n nc,.agg #[.int .i64 1,.string ⟨s.toArray⟩,.int .i64 i,.slice ko kn kc,.slice jo jn jc]] w fun e w' => e = .returned (.string ⟨([110,117,108,108]).toArray⟩) ∧ Bel w w' := by
 obtain ⟨V,hV⟩ : ∃ V,w.alloc (.cells #[.int .i64 1,.string ⟨s.toArray⟩,.int .i64 i,.slice ko kn kc,.slice jo jn jc] 65) = V := ⟨_,rfl⟩
 have BV : Bel w V := by rw [← hV]; exact Bel.alloc (Bel.refl w) _
 obtain ⟨y0,y1,y2,y3,y4⟩ : V.cell? ⟨w.heap.size,0,none⟩ = some (.int .i64 1) ∧ V.cell? ⟨w.heap.size,1,none⟩ = some (.string ⟨s.toArray⟩) ∧ V.cell? ⟨w.heap.size,2,none⟩ = some (.int .i64 i) ∧ V.cell? ⟨w.heap.size,3,none⟩ = some (.slice ko kn kc) ∧ V.cell? ⟨w.heap.size,4,none⟩ = some (.slice jo jn jc) := by rw [← hV]; exact box5 w _ _ _ _ _ _
 have HB := Lib.hid BV
 have HVe := Lib.hid hV
 clear BV hV
 go_enter Tryz.func203,Tryz.ntmps203
 go_wp2_with fail
 go_ret
 exact ⟨by first | rfl | simp,by first | exact HB.out | (rw [HVe.out]; exact HB.out)⟩
theorem rwrVar_any (no : Option Addr) (n nc : Nat) (s : Txt) (i : Int) (ko jo : Option Addr) (kn kc jn jc : Nat) (w : World) :
  Calls Tryz.prog 203 #[.slice no n nc,.agg #[.int .i64 5,.string ⟨s.toArray⟩,.int .i64 i,.slice ko kn kc,.slice jo jn jc]] w fun e w' => e = .returned (.string ⟨(s).toArray⟩) ∧ Bel w w' := by
 obtain ⟨V,hV⟩ : ∃ V,w.alloc (.cells #[.int .i64 5,.string ⟨s.toArray⟩,.int .i64 i,.slice ko kn kc,.slice jo jn jc] 65) = V := ⟨_,rfl⟩
 have BV : Bel w V := by rw [← hV]; exact Bel.alloc (Bel.refl w) _
 obtain ⟨y0,y1,y2,y3,y4⟩ : V.cell? ⟨w.heap.size,0,none⟩ = some (.int .i64 5) ∧ V.cell? ⟨w.heap.size,1,none⟩ = some (.string ⟨s.toArray⟩) ∧ V.cell? ⟨w.heap.size,2,none⟩ = some (.int .i64 i) ∧ V.cell? ⟨w.heap.size,3,none⟩ = some (.slice ko kn kc) ∧ V.cell? ⟨w.heap.size,4,none⟩ = some (.slice jo jn jc) := by rw [← hV]; exact box5 w _ _ _ _ _ _
 have HB := Lib.hid BV
 have HVe := Lib.hid hV
 clear BV hV
 go_enter Tryz.func203,Tryz.ntmps203
 go_wp2_with fail
 go_ret
 exact ⟨by first | rfl | simp,by first | exact HB.out | (rw [HVe.out]; exact HB.out)⟩
theorem rwrStr_any (no : Option Addr) (n nc : Nat) (s : Txt) (i : Int) (ko jo : Option Addr) (kn kc jn jc : Nat) (hs : s.length ≤ 140737488355328) (w : World) :
  Calls Tryz.prog 203 #[.slice no n nc,.agg #[.int .i64 4,.string ⟨s.toArray⟩,.int .i64 i,.slice ko kn kc,.slice jo jn jc]] w fun e w' => e = .returned (.string ⟨(Lex.txtT ⟨4,s,0,0⟩).toArray⟩) ∧ Bel w w' := by
 obtain ⟨V,hV⟩ : ∃ V,w.alloc (.cells #[.int .i64 4,.string ⟨s.toArray⟩,.int .i64 i,.slice ko kn kc,.slice jo jn jc] 65) = V := ⟨_,rfl⟩
 have BV : Bel w V := by rw [← hV]; exact Bel.alloc (Bel.refl w) _
 obtain ⟨y0,y1,y2,y3,y4⟩ : V.cell? ⟨w.heap.size,0,none⟩ = some (.int .i64 4) ∧ V.cell? ⟨w.heap.size,1,none⟩ = some (.string ⟨s.toArray⟩) ∧ V.cell? ⟨w.heap.size,2,none⟩ = some (.int .i64 i) ∧ V.cell? ⟨w.heap.size,3,none⟩ = some (.slice ko kn kc) ∧ V.cell? ⟨w.heap.size,4,none⟩ = some (.slice jo jn jc) := by rw [← hV]; exact box5 w _ _ _ _ _ _
 have HB := Lib.hid BV
 have HVe := Lib.hid hV
 have HT := Lib.hid (rquoT_any s hs V)
 generalize Lex.txtT ⟨4,s,0,0⟩ = t at *
 clear BV hV
 go_enter Tryz.func203,Tryz.ntmps203
 go_wp2_with fail
 rw [HVe.out]
 refine HT.out.mono ?_
 rintro e w2 ⟨rfl,g⟩
 have G := Lib.hid g
 clear g
 go_wp2_with fail
 go_ret
 exact ⟨rfl,Bel.trans HB.out G.out⟩
theorem rwrInt_any (no : Option Addr) (n nc : Nat) (s : Txt) (i : Int) (ko jo : Option Addr) (kn kc jn jc : Nat) (hi : -9223372036854775808 ≤ i ∧ i ≤ 9223372036854775807) (w : World) :
  Calls Tryz.prog 203 #[.slice no n nc,.agg #[.int .i64 3,.string ⟨s.toArray⟩,.int .i64 i,.slice ko kn kc,.slice jo jn jc]] w fun e w' => e = .returned (.string ⟨(Num.fmtL i).toArray⟩) ∧ Bel w w' := by
 obtain ⟨V,hV⟩ : ∃ V,w.alloc (.cells #[.int .i64 3,.string ⟨s.toArray⟩,.int .i64 i,.slice ko kn kc,.slice jo jn jc] 65) = V := ⟨_,rfl⟩
 have BV : Bel w V := by rw [← hV]; exact Bel.alloc (Bel.refl w) _
 obtain ⟨y0,y1,y2,y3,y4⟩ : V.cell? ⟨w.heap.size,0,none⟩ = some (.int .i64 3) ∧ V.cell? ⟨w.heap.size,1,none⟩ = some (.string ⟨s.toArray⟩) ∧ V.cell? ⟨w.heap.size,2,none⟩ = some (.int .i64 i) ∧ V.cell? ⟨w.heap.size,3,none⟩ = some (.slice ko kn kc) ∧ V.cell? ⟨w.heap.size,4,none⟩ = some (.slice jo jn jc) := by rw [← hV]; exact box5 w _ _ _ _ _ _
 have HB := Lib.hid BV
 have HVe := Lib.hid hV
 have HT := Lib.hid (Num.rformat_any i hi.1 hi.2 V)
 generalize Num.fmtL i = t at *
 clear BV hV
 go_enter Tryz.func203,Tryz.ntmps203
 go_wp2_with fail
 rw [HVe.out]
 refine HT.out.mono ?_
 rintro e w2 ⟨rfl,g⟩
 subst g
 have G := Lib.hid (Bel.refl V)
 go_wp2_with fail
 go_ret
 exact ⟨rfl,Bel.trans HB.out G.out⟩
theorem rwrBool_any (no : Option Addr) (n nc : Nat) (s : Txt) (i : Int) (ko jo : Option Addr) (kn kc jn jc : Nat) (hi : i = 0 ∨ i = 1) (w : World) :
  Calls Tryz.prog 203 #[.slice no n nc,.agg #[.int .i64 2,.string ⟨s.toArray⟩,.int .i64 i,.slice ko kn kc,.slice jo jn jc]] w fun e w' => e = .returned (.string ⟨(if i = 0 then [102,97,108,115,101] else [116,114,117,101] : Txt).toArray⟩) ∧ Bel w w' := by
 rcases hi with rfl | rfl
 ·obtain ⟨V,hV⟩ : ∃ V,w.alloc (.cells #[.int .i64 2,.string ⟨s.toArray⟩,.int .i64 0,.slice ko kn kc,.slice jo jn jc] 65) = V := ⟨_,rfl⟩
  have BV : Bel w V := by rw [← hV]; exact Bel.alloc (Bel.refl w) _
  obtain ⟨y0,y1,y2,y3,y4⟩ : V.cell? ⟨w.heap.size,0,none⟩ = some (.int .i64 2) ∧ V.cell? ⟨w.heap.size,1,none⟩ = some (.string ⟨s.toArray⟩) ∧ V.cell? ⟨w.heap.size,2,none⟩ = some (.int .i64 0) ∧ V.cell? ⟨w.heap.size,3,none⟩ = some (.slice ko kn kc) ∧ V.cell? ⟨w.heap.size,4,none⟩ = some (.slice jo jn jc) := by rw [← hV]; exact box5 w _ _ _ _ _ _
  have HB := Lib.hid BV
  have HVe := Lib.hid hV
  clear BV hV
  go_enter Tryz.func203,Tryz.ntmps203
  go_wp2_with fail
  go_ret
  exact ⟨rfl,by first | exact HB.out | (rw [HVe.out]; exact HB.out)⟩
 ·obtain ⟨V,hV⟩ : ∃ V,w.alloc (.cells #[.int .i64 2,.string ⟨s.toArray⟩,.int .i64 1,.slice ko kn kc,.slice jo jn jc] 65) = V := ⟨_,rfl⟩
  have BV : Bel w V := by rw [← hV]; exact Bel.alloc (Bel.refl w) _
  obtain ⟨y0,y1,y2,y3,y4⟩ : V.cell? ⟨w.heap.size,0,none⟩ = some (.int .i64 2) ∧ V.cell? ⟨w.heap.size,1,none⟩ = some (.string ⟨s.toArray⟩) ∧ V.cell? ⟨w.heap.size,2,none⟩ = some (.int .i64 1) ∧ V.cell? ⟨w.heap.size,3,none⟩ = some (.slice ko kn kc) ∧ V.cell? ⟨w.heap.size,4,none⟩ = some (.slice jo jn jc) := by rw [← hV]; exact box5 w _ _ _ _ _ _
  have HB := Lib.hid BV
  have HVe := Lib.hid hV
  clear BV hV
  go_enter Tryz.func203,Tryz.ntmps203
  go_wp2_with fail
  go_ret
  exact ⟨rfl,by first | exact HB.out | (rw [HVe.out]; exact HB.out)⟩
theorem rwrNeg_any (no : Option Addr) (n nc z : Nat) (i : Int) (ko : Option Addr) (kn kc jn jc bj oj : Nat) (hj : 0 < jn) (X : Txt) (hX : X.length ≤ 1000000000) (w : World) (hz : w.cell? ⟨bj,oj,none⟩ = some (.int .i64 (z : Int))) (hb : ∀ W,Bel w W → Calls Tryz.prog 153 #[.slice no n nc,.int .i64 (z : Int),.int .i64 (7 : Int)] W fun e w' => e = .returned (.string ⟨X.toArray⟩) ∧ Bel W w') :
  Calls Tryz.prog 203 #[.slice no n nc,.agg #[.int .i64 8,.string ⟨([45] : Txt).toArray⟩,.int .i64 i,.slice ko kn kc,.slice (some ⟨bj,oj,none⟩) jn jc]] w fun e w' => e = .returned (.string ⟨(45 :: X).toArray⟩) ∧ Bel w w' := by
 obtain ⟨V,hV⟩ : ∃ V,w.alloc (.cells #[.int .i64 8,.string ⟨([45] : Txt).toArray⟩,.int .i64 i,.slice ko kn kc,.slice (some ⟨bj,oj,none⟩) jn jc] 65) = V := ⟨_,rfl⟩
 have BV : Bel w V := by rw [← hV]; exact Bel.alloc (Bel.refl w) _
 obtain ⟨y0,y1,y2,y3,y4⟩ : V.cell? ⟨w.heap.size,0,none⟩ = some (.int .i64 8) ∧ V.cell? ⟨w.heap.size,1,none⟩ = some (.string ⟨([45] : Txt).toArray⟩) ∧ V.cell? ⟨w.heap.size,2,none⟩ = some (.int .i64 i) ∧ V.cell? ⟨w.heap.size,3,none⟩ = some (.slice ko kn kc) ∧ V.cell? ⟨w.heap.size,4,none⟩ = some (.slice (some ⟨bj,oj,none⟩) jn jc) := by rw [← hV]; exact box5 w _ _ _ _ _ _
 have HB := Lib.hid BV
 have HVe := Lib.hid hV
 have c1 := BV.cell' hz
 rw [← hV] at c1
 have HL := Lib.hid (hb V BV)
 have hj0 : (0 : Int) < (jn : Int) := by omega
 have h1 : (9223372036854775807 < 1 + X.length) = False := eq_false (by omega)
 clear hb BV hX hV hz
 go_enter Tryz.func203,Tryz.ntmps203
 go_wp2_with fail
 rw [HVe.out]
 refine HL.out.mono ?_
 rintro e w2 ⟨rfl,g⟩
 have G := Lib.hid (Bel.trans HB.out g)
 clear g
 go_wp2_with fail
 go_ret
 exact ⟨by simp [ByteArray.ext_iff],G.out⟩
theorem rwrNot_any (no : Option Addr) (n nc z : Nat) (i : Int) (ko : Option Addr) (kn kc jn jc bj oj : Nat) (hj : 0 < jn) (X : Txt) (hX : X.length ≤ 1000000000) (w : World) (hz : w.cell? ⟨bj,oj,none⟩ = some (.int .i64 (z : Int))) (hb : ∀ W,Bel w W → Calls Tryz.prog 153 #[.slice no n nc,.int .i64 (z : Int),.int .i64 (3 : Int)] W fun e w' => e = .returned (.string ⟨X.toArray⟩) ∧ Bel W w') :
  Calls Tryz.prog 203 #[.slice no n nc,.agg #[.int .i64 8,.string ⟨([110,111,116] : Txt).toArray⟩,.int .i64 i,.slice ko kn kc,.slice (some ⟨bj,oj,none⟩) jn jc]] w fun e w' => e = .returned (.string ⟨([110,111,116,32] ++ X).toArray⟩) ∧ Bel w w' := by
 obtain ⟨V,hV⟩ : ∃ V,w.alloc (.cells #[.int .i64 8,.string ⟨([110,111,116] : Txt).toArray⟩,.int .i64 i,.slice ko kn kc,.slice (some ⟨bj,oj,none⟩) jn jc] 65) = V := ⟨_,rfl⟩
 have BV : Bel w V := by rw [← hV]; exact Bel.alloc (Bel.refl w) _
 obtain ⟨y0,y1,y2,y3,y4⟩ : V.cell? ⟨w.heap.size,0,none⟩ = some (.int .i64 8) ∧ V.cell? ⟨w.heap.size,1,none⟩ = some (.string ⟨([110,111,116] : Txt).toArray⟩) ∧ V.cell? ⟨w.heap.size,2,none⟩ = some (.int .i64 i) ∧ V.cell? ⟨w.heap.size,3,none⟩ = some (.slice ko kn kc) ∧ V.cell? ⟨w.heap.size,4,none⟩ = some (.slice (some ⟨bj,oj,none⟩) jn jc) := by rw [← hV]; exact box5 w _ _ _ _ _ _
 have HB := Lib.hid BV
 have HVe := Lib.hid hV
 have c1 := BV.cell' hz
 rw [← hV] at c1
 have HL := Lib.hid (hb V BV)
 have hj0 : (0 : Int) < (jn : Int) := by omega
 have h1 : (9223372036854775807 < 4 + X.length) = False := eq_false (by omega)
 clear hb BV hX hV hz
 go_enter Tryz.func203,Tryz.ntmps203
 go_wp2_with fail
 rw [HVe.out]
 refine HL.out.mono ?_
 rintro e w2 ⟨rfl,g⟩
 have G := Lib.hid (Bel.trans HB.out g)
 clear g
 go_wp2_with fail
 go_ret
 exact ⟨by simp [ByteArray.ext_iff],G.out⟩
theorem rwrIdx_any (no : Option Addr) (n nc z1 z2 : Nat) (s : Txt) (i : Int) (ko : Option Addr) (kn kc jn jc bj oj : Nat) (hj : 1 < jn) (X1 X2 : Txt) (h1 : X1.length ≤ 1000000000) (h2 : X2.length ≤ 1000000000) (w : World) (hz1 : w.cell? ⟨bj,oj,none⟩ = some (.int .i64 (z1 : Int))) (hz2 : w.cell? ⟨bj,oj + 1,none⟩ = some (.int .i64 (z2 : Int)))
  (hb1 : ∀ W,Bel w W → Calls Tryz.prog 153 #[.slice no n nc,.int .i64 (z1 : Int),.int .i64 (8 : Int)] W fun e w' => e = .returned (.string ⟨X1.toArray⟩) ∧ Bel W w')
  (hb2 : ∀ W,Bel w W → Calls Tryz.prog 153 #[.slice no n nc,.int .i64 (z2 : Int),.int .i64 (1 : Int)] W fun e w' => e = .returned (.string ⟨X2.toArray⟩) ∧ Bel W w') :
  Calls Tryz.prog 203 #[.slice no n nc,.agg #[.int .i64 10,.string ⟨s.toArray⟩,.int .i64 i,.slice ko kn kc,.slice (some ⟨bj,oj,none⟩) jn jc]] w fun e w' => e = .returned (.string ⟨(X1 ++ 91 :: (X2 ++ [93])).toArray⟩) ∧ Bel w w' := by
 obtain ⟨V,hV⟩ : ∃ V,w.alloc (.cells #[.int .i64 10,.string ⟨s.toArray⟩,.int .i64 i,.slice ko kn kc,.slice (some ⟨bj,oj,none⟩) jn jc] 65) = V := ⟨_,rfl⟩
 have BV : Bel w V := by rw [← hV]; exact Bel.alloc (Bel.refl w) _
 obtain ⟨y0,y1,y2,y3,y4⟩ : V.cell? ⟨w.heap.size,0,none⟩ = some (.int .i64 10) ∧ V.cell? ⟨w.heap.size,1,none⟩ = some (.string ⟨s.toArray⟩) ∧ V.cell? ⟨w.heap.size,2,none⟩ = some (.int .i64 i) ∧ V.cell? ⟨w.heap.size,3,none⟩ = some (.slice ko kn kc) ∧ V.cell? ⟨w.heap.size,4,none⟩ = some (.slice (some ⟨bj,oj,none⟩) jn jc) := by rw [← hV]; exact box5 w _ _ _ _ _ _
 have HB := Lib.hid BV
 have HVe := Lib.hid hV
 have c1 := BV.cell' hz1
 have c2 := BV.cell' hz2
 have hj0 : (0 : Int) < (jn : Int) := by omega
 have hjp : 0 < jn := by omega
 have hj1 : (1 : Int) < (jn : Int) := by omega
 have HE1 := Lib.hid (show ∀ W,(W.cell? ⟨w.heap.size,1,none⟩ = some (.string ⟨s.toArray⟩) ∧ W.cell? ⟨w.heap.size,4,none⟩ = some (.slice (some ⟨bj,oj,none⟩) jn jc) ∧ W.cell? ⟨bj,oj,none⟩ = some (.int .i64 (z1 : Int)) ∧ W.cell? ⟨bj,oj + 1,none⟩ = some (.int .i64 (z2 : Int)) ∧ Bel V W) → Calls Tryz.prog 153 #[.slice no n nc,.int .i64 (z1 : Int),.int .i64 (8)] W fun e w' => e = .returned (.string ⟨X1.toArray⟩) ∧ w'.cell? ⟨w.heap.size,1,none⟩ = some (.string ⟨s.toArray⟩) ∧ w'.cell? ⟨w.heap.size,4,none⟩ = some (.slice (some ⟨bj,oj,none⟩) jn jc) ∧ w'.cell? ⟨bj,oj,none⟩ = some (.int .i64 (z1 : Int)) ∧ w'.cell? ⟨bj,oj + 1,none⟩ = some (.int .i64 (z2 : Int)) ∧ Bel V w' from fun W hS => (hb1 W (Bel.trans HB.out hS.2.2.2.2)).mono fun e w' q => ⟨q.1,q.2.cell' hS.1,q.2.cell' hS.2.1,q.2.cell' hS.2.2.1,q.2.cell' hS.2.2.2.1,Bel.trans hS.2.2.2.2 q.2⟩)
 have HE2 := Lib.hid (show ∀ W,(W.cell? ⟨w.heap.size,1,none⟩ = some (.string ⟨s.toArray⟩) ∧ W.cell? ⟨w.heap.size,4,none⟩ = some (.slice (some ⟨bj,oj,none⟩) jn jc) ∧ W.cell? ⟨bj,oj,none⟩ = some (.int .i64 (z1 : Int)) ∧ W.cell? ⟨bj,oj + 1,none⟩ = some (.int .i64 (z2 : Int)) ∧ Bel V W) → Calls Tryz.prog 153 #[.slice no n nc,.int .i64 (z2 : Int),.int .i64 (1)] W fun e w' => e = .returned (.string ⟨X2.toArray⟩) ∧ w'.cell? ⟨w.heap.size,1,none⟩ = some (.string ⟨s.toArray⟩) ∧ w'.cell? ⟨w.heap.size,4,none⟩ = some (.slice (some ⟨bj,oj,none⟩) jn jc) ∧ w'.cell? ⟨bj,oj,none⟩ = some (.int .i64 (z1 : Int)) ∧ w'.cell? ⟨bj,oj + 1,none⟩ = some (.int .i64 (z2 : Int)) ∧ Bel V w' from fun W hS => (hb2 W (Bel.trans HB.out hS.2.2.2.2)).mono fun e w' q => ⟨q.1,q.2.cell' hS.1,q.2.cell' hS.2.1,q.2.cell' hS.2.2.1,q.2.cell' hS.2.2.2.1,Bel.trans hS.2.2.2.2 q.2⟩)
 have q1 : (9223372036854775807 < X1.length + 1) = False := eq_false (by omega)
 have q2 : (9223372036854775807 < X1.length + 1 + X2.length) = False := eq_false (by omega)
 have q3 : (9223372036854775807 < X1.length + 1 + X2.length + 1) = False := eq_false (by omega)
 clear hb1 hb2 hz1 hz2 h1 h2 BV hV
 go_enter Tryz.func203,Tryz.ntmps203
 go_wp2_with fail
 rw [HVe.out]
 go_region_held3 (fun W => W.cell? ⟨w.heap.size,1,none⟩ = some (.string ⟨s.toArray⟩) ∧ W.cell? ⟨w.heap.size,4,none⟩ = some (.slice (some ⟨bj,oj,none⟩) jn jc) ∧ W.cell? ⟨bj,oj,none⟩ = some (.int .i64 (z1 : Int)) ∧ W.cell? ⟨bj,oj + 1,none⟩ = some (.int .i64 (z2 : Int)) ∧ Bel V W) (first | exact ⟨a1,a2,a3,a4,a5⟩ | exact ⟨y1,y4,c1,c2,Below.drew (Bel.refl _)⟩) (first | (go_at_call 153; first | ((with_reducible refine (HE1.out _ ?_).mono ?_); (first | assumption | exact ⟨y1,y4,c1,c2,Below.drew (Bel.refl _)⟩); rintro e w' ⟨rfl,a1,a2,a3,a4,a5⟩) | ((with_reducible refine (HE2.out _ ?_).mono ?_); (first | assumption | exact ⟨y1,y4,c1,c2,Below.drew (Bel.refl _)⟩); rintro e w' ⟨rfl,a1,a2,a3,a4,a5⟩)))
 all_goals
  have A5 := Lib.hid a5
  go_wp2_with fail
  go_ret
  exact ⟨by simp [ByteArray.ext_iff],Bel.trans HB.out A5.out⟩
theorem rwrBin_any (no : Option Addr) (n nc z1 z2 : Nat) (s : Txt) (i : Int) (ko : Option Addr) (kn kc jn jc bj oj : Nat) (hj : 1 < jn) (X1 X2 : Txt) (h1 : X1.length ≤ 1000000000) (h2 : X2.length ≤ 1000000000) (hs : s.length ≤ 1000000000) (hop : binL s ≠ 0) (w : World) (hz1 : w.cell? ⟨bj,oj,none⟩ = some (.int .i64 (z1 : Int))) (hz2 : w.cell? ⟨bj,oj + 1,none⟩ = some (.int .i64 (z2 : Int)))
  (hb1 : ∀ W,Bel w W → Calls Tryz.prog 153 #[.slice no n nc,.int .i64 (z1 : Int),.int .i64 (leftL (binL s) : Int)] W fun e w' => e = .returned (.string ⟨X1.toArray⟩) ∧ Bel W w')
  (hb2 : ∀ W,Bel w W → Calls Tryz.prog 153 #[.slice no n nc,.int .i64 (z2 : Int),.int .i64 (((binL s + 1 : Nat) : Int) : Int)] W fun e w' => e = .returned (.string ⟨X2.toArray⟩) ∧ Bel W w') :
  Calls Tryz.prog 203 #[.slice no n nc,.agg #[.int .i64 9,.string ⟨s.toArray⟩,.int .i64 i,.slice ko kn kc,.slice (some ⟨bj,oj,none⟩) jn jc]] w fun e w' => e = .returned (.string ⟨(X1 ++ 32 :: (s ++ 32 :: X2)).toArray⟩) ∧ Bel w w' := by
 obtain ⟨V,hV⟩ : ∃ V,w.alloc (.cells #[.int .i64 9,.string ⟨s.toArray⟩,.int .i64 i,.slice ko kn kc,.slice (some ⟨bj,oj,none⟩) jn jc] 65) = V := ⟨_,rfl⟩
 have BV : Bel w V := by rw [← hV]; exact Bel.alloc (Bel.refl w) _
 obtain ⟨y0,y1,y2,y3,y4⟩ : V.cell? ⟨w.heap.size,0,none⟩ = some (.int .i64 9) ∧ V.cell? ⟨w.heap.size,1,none⟩ = some (.string ⟨s.toArray⟩) ∧ V.cell? ⟨w.heap.size,2,none⟩ = some (.int .i64 i) ∧ V.cell? ⟨w.heap.size,3,none⟩ = some (.slice ko kn kc) ∧ V.cell? ⟨w.heap.size,4,none⟩ = some (.slice (some ⟨bj,oj,none⟩) jn jc) := by rw [← hV]; exact box5 w _ _ _ _ _ _
 have HB := Lib.hid BV
 have HVe := Lib.hid hV
 have c1 := BV.cell' hz1
 have c2 := BV.cell' hz2
 have hj0 : (0 : Int) < (jn : Int) := by omega
 have hjp : 0 < jn := by omega
 have hj1 : (1 : Int) < (jn : Int) := by omega
 have HLv := Lib.hid (rlvN_any 9 s i (fun _ => hop) (fun h => absurd h (by decide)) ko (some ⟨bj,oj,none⟩) kn kc jn jc V)
 rw [show lvN 9 s = binL s from rfl] at HLv
 have hle : binL s ≤ 100 := by unfold binL; (repeat' split) <;> omega
 generalize binL s = bl at *
 by_cases h4 : bl = 4
 ·subst h4
  rw [show ((leftL 4 : Nat) : Int) = 5 from rfl] at hb1
  rw [show ((4 + 1 : Nat) : Int) = 5 from rfl] at hb2
  rw [show ((4 : Nat) : Int) = 4 from rfl] at HLv
  have hw5 : IntKind.i64.wrap 5 = 5 := by rw [IntKind.wrap_i64]; omega
  clear hop hle
  have HE1 := Lib.hid (show ∀ W,(W.cell? ⟨w.heap.size,1,none⟩ = some (.string ⟨s.toArray⟩) ∧ W.cell? ⟨w.heap.size,4,none⟩ = some (.slice (some ⟨bj,oj,none⟩) jn jc) ∧ W.cell? ⟨bj,oj,none⟩ = some (.int .i64 (z1 : Int)) ∧ W.cell? ⟨bj,oj + 1,none⟩ = some (.int .i64 (z2 : Int)) ∧ Bel V W) → Calls Tryz.prog 153 #[.slice no n nc,.int .i64 (z1 : Int),.int .i64 (5)] W fun e w' => e = .returned (.string ⟨X1.toArray⟩) ∧ w'.cell? ⟨w.heap.size,1,none⟩ = some (.string ⟨s.toArray⟩) ∧ w'.cell? ⟨w.heap.size,4,none⟩ = some (.slice (some ⟨bj,oj,none⟩) jn jc) ∧ w'.cell? ⟨bj,oj,none⟩ = some (.int .i64 (z1 : Int)) ∧ w'.cell? ⟨bj,oj + 1,none⟩ = some (.int .i64 (z2 : Int)) ∧ Bel V w' from fun W hS => (hb1 W (Bel.trans HB.out hS.2.2.2.2)).mono fun e w' q => ⟨q.1,q.2.cell' hS.1,q.2.cell' hS.2.1,q.2.cell' hS.2.2.1,q.2.cell' hS.2.2.2.1,Bel.trans hS.2.2.2.2 q.2⟩)
  have HE2 := Lib.hid (show ∀ W,(W.cell? ⟨w.heap.size,1,none⟩ = some (.string ⟨s.toArray⟩) ∧ W.cell? ⟨w.heap.size,4,none⟩ = some (.slice (some ⟨bj,oj,none⟩) jn jc) ∧ W.cell? ⟨bj,oj,none⟩ = some (.int .i64 (z1 : Int)) ∧ W.cell? ⟨bj,oj + 1,none⟩ = some (.int .i64 (z2 : Int)) ∧ Bel V W) → Calls Tryz.prog 153 #[.slice no n nc,.int .i64 (z2 : Int),.int .i64 (5)] W fun e w' => e = .returned (.string ⟨X2.toArray⟩) ∧ w'.cell? ⟨w.heap.size,1,none⟩ = some (.string ⟨s.toArray⟩) ∧ w'.cell? ⟨w.heap.size,4,none⟩ = some (.slice (some ⟨bj,oj,none⟩) jn jc) ∧ w'.cell? ⟨bj,oj,none⟩ = some (.int .i64 (z1 : Int)) ∧ w'.cell? ⟨bj,oj + 1,none⟩ = some (.int .i64 (z2 : Int)) ∧ Bel V w' from fun W hS => (hb2 W (Bel.trans HB.out hS.2.2.2.2)).mono fun e w' q => ⟨q.1,q.2.cell' hS.1,q.2.cell' hS.2.1,q.2.cell' hS.2.2.1,q.2.cell' hS.2.2.2.1,Bel.trans hS.2.2.2.2 q.2⟩)
  have q1 : (9223372036854775807 < X1.length + 1) = False := eq_false (by omega)
  have q2 : (9223372036854775807 < X1.length + 1 + s.length) = False := eq_false (by omega)
  have q3 : (9223372036854775807 < X1.length + 1 + s.length + 1) = False := eq_false (by omega)
  have q4 : (9223372036854775807 < X1.length + 1 + s.length + 1 + X2.length) = False := eq_false (by omega)
  clear hb1 hb2 hz1 hz2 h1 h2 hs BV hV
  go_enter Tryz.func203,Tryz.ntmps203
  go_wp2_with fail
  rw [HVe.out]
  refine HLv.out.mono ?_
  rintro e w2 ⟨rfl,g⟩
  have y0 := g.cell' y0
  have y1 := g.cell' y1
  have y2 := g.cell' y2
  have y3 := g.cell' y3
  have y4 := g.cell' y4
  have c1 := g.cell' c1
  have c2 := g.cell' c2
  have G := Lib.hid g
  clear g
  go_wp2_with fail
  go_region_held3 (fun W => W.cell? ⟨w.heap.size,1,none⟩ = some (.string ⟨s.toArray⟩) ∧ W.cell? ⟨w.heap.size,4,none⟩ = some (.slice (some ⟨bj,oj,none⟩) jn jc) ∧ W.cell? ⟨bj,oj,none⟩ = some (.int .i64 (z1 : Int)) ∧ W.cell? ⟨bj,oj + 1,none⟩ = some (.int .i64 (z2 : Int)) ∧ Bel V W) (first | exact ⟨a1,a2,a3,a4,a5⟩ | exact ⟨y1,y4,c1,c2,Below.drew G.out⟩) (first | (go_at_call 153; first | ((with_reducible refine (HE1.out _ ?_).mono ?_); (first | assumption | exact ⟨y1,y4,c1,c2,Below.drew G.out⟩); rintro e w' ⟨rfl,a1,a2,a3,a4,a5⟩) | ((with_reducible refine (HE2.out _ ?_).mono ?_); (first | assumption | exact ⟨y1,y4,c1,c2,Below.drew G.out⟩); rintro e w' ⟨rfl,a1,a2,a3,a4,a5⟩)))
  all_goals
   have A5 := Lib.hid a5
   go_wp2_with fail
   go_ret
   exact ⟨by simp [ByteArray.ext_iff],Bel.trans HB.out A5.out⟩
 ·rw [show leftL bl = bl from if_neg h4] at hb1
  rw [show ((bl + 1 : Nat) : Int) = (bl : Int) + 1 from rfl] at hb2
  have hb4 : ((bl : Int) == 4) = false := by simp; omega
  have hw5 : IntKind.i64.wrap ((bl : Int) + 1) = (bl : Int) + 1 := by rw [IntKind.wrap_i64]; omega
  clear hop
  have HE1 := Lib.hid (show ∀ W,(W.cell? ⟨w.heap.size,1,none⟩ = some (.string ⟨s.toArray⟩) ∧ W.cell? ⟨w.heap.size,4,none⟩ = some (.slice (some ⟨bj,oj,none⟩) jn jc) ∧ W.cell? ⟨bj,oj,none⟩ = some (.int .i64 (z1 : Int)) ∧ W.cell? ⟨bj,oj + 1,none⟩ = some (.int .i64 (z2 : Int)) ∧ Bel V W) → Calls Tryz.prog 153 #[.slice no n nc,.int .i64 (z1 : Int),.int .i64 ((bl : Int))] W fun e w' => e = .returned (.string ⟨X1.toArray⟩) ∧ w'.cell? ⟨w.heap.size,1,none⟩ = some (.string ⟨s.toArray⟩) ∧ w'.cell? ⟨w.heap.size,4,none⟩ = some (.slice (some ⟨bj,oj,none⟩) jn jc) ∧ w'.cell? ⟨bj,oj,none⟩ = some (.int .i64 (z1 : Int)) ∧ w'.cell? ⟨bj,oj + 1,none⟩ = some (.int .i64 (z2 : Int)) ∧ Bel V w' from fun W hS => (hb1 W (Bel.trans HB.out hS.2.2.2.2)).mono fun e w' q => ⟨q.1,q.2.cell' hS.1,q.2.cell' hS.2.1,q.2.cell' hS.2.2.1,q.2.cell' hS.2.2.2.1,Bel.trans hS.2.2.2.2 q.2⟩)
  have HE2 := Lib.hid (show ∀ W,(W.cell? ⟨w.heap.size,1,none⟩ = some (.string ⟨s.toArray⟩) ∧ W.cell? ⟨w.heap.size,4,none⟩ = some (.slice (some ⟨bj,oj,none⟩) jn jc) ∧ W.cell? ⟨bj,oj,none⟩ = some (.int .i64 (z1 : Int)) ∧ W.cell? ⟨bj,oj + 1,none⟩ = some (.int .i64 (z2 : Int)) ∧ Bel V W) → Calls Tryz.prog 153 #[.slice no n nc,.int .i64 (z2 : Int),.int .i64 ((bl : Int) + 1)] W fun e w' => e = .returned (.string ⟨X2.toArray⟩) ∧ w'.cell? ⟨w.heap.size,1,none⟩ = some (.string ⟨s.toArray⟩) ∧ w'.cell? ⟨w.heap.size,4,none⟩ = some (.slice (some ⟨bj,oj,none⟩) jn jc) ∧ w'.cell? ⟨bj,oj,none⟩ = some (.int .i64 (z1 : Int)) ∧ w'.cell? ⟨bj,oj + 1,none⟩ = some (.int .i64 (z2 : Int)) ∧ Bel V w' from fun W hS => (hb2 W (Bel.trans HB.out hS.2.2.2.2)).mono fun e w' q => ⟨q.1,q.2.cell' hS.1,q.2.cell' hS.2.1,q.2.cell' hS.2.2.1,q.2.cell' hS.2.2.2.1,Bel.trans hS.2.2.2.2 q.2⟩)
  have q1 : (9223372036854775807 < X1.length + 1) = False := eq_false (by omega)
  have q2 : (9223372036854775807 < X1.length + 1 + s.length) = False := eq_false (by omega)
  have q3 : (9223372036854775807 < X1.length + 1 + s.length + 1) = False := eq_false (by omega)
  have q4 : (9223372036854775807 < X1.length + 1 + s.length + 1 + X2.length) = False := eq_false (by omega)
  clear hb1 hb2 hz1 hz2 h1 h2 hs BV hV
  go_enter Tryz.func203,Tryz.ntmps203
  go_wp2_with fail
  rw [HVe.out]
  refine HLv.out.mono ?_
  rintro e w2 ⟨rfl,g⟩
  have y0 := g.cell' y0
  have y1 := g.cell' y1
  have y2 := g.cell' y2
  have y3 := g.cell' y3
  have y4 := g.cell' y4
  have c1 := g.cell' c1
  have c2 := g.cell' c2
  have G := Lib.hid g
  clear g
  go_wp2_with fail
  go_region_held3 (fun W => W.cell? ⟨w.heap.size,1,none⟩ = some (.string ⟨s.toArray⟩) ∧ W.cell? ⟨w.heap.size,4,none⟩ = some (.slice (some ⟨bj,oj,none⟩) jn jc) ∧ W.cell? ⟨bj,oj,none⟩ = some (.int .i64 (z1 : Int)) ∧ W.cell? ⟨bj,oj + 1,none⟩ = some (.int .i64 (z2 : Int)) ∧ Bel V W) (first | exact ⟨a1,a2,a3,a4,a5⟩ | exact ⟨y1,y4,c1,c2,Below.drew G.out⟩) (first | (go_at_call 153; first | ((with_reducible refine (HE1.out _ ?_).mono ?_); (first | assumption | exact ⟨y1,y4,c1,c2,Below.drew G.out⟩); rintro e w' ⟨rfl,a1,a2,a3,a4,a5⟩) | ((with_reducible refine (HE2.out _ ?_).mono ?_); (first | assumption | exact ⟨y1,y4,c1,c2,Below.drew G.out⟩); rintro e w' ⟨rfl,a1,a2,a3,a4,a5⟩)))
  all_goals
   have A5 := Lib.hid a5
   go_wp2_with fail
   go_ret
   exact ⟨by simp [ByteArray.ext_iff],Bel.trans HB.out A5.out⟩
theorem rwrMap_any (no : Option Addr) (n nc : Nat) (s : Txt) (i : Int) (ko jo : Option Addr) (kc m jc : Nat) (hm : m ≤ 100000) (kids : List Int) (keys Xs : List Txt) (hX : Xs.length = m) (hXl : ∀ x ∈ Xs,x.length ≤ 1000000000) (hkl : ∀ k ∈ keys,k.length ≤ 140737488355328) (w : World) (hZ : ZArg w jo m kids) (hKs : SArg w ko m keys)
  (hb : ∀ j (h : j < kids.length) (h' : j < Xs.length) W,Bel w W → Calls Tryz.prog 153 #[.slice no n nc,.int .i64 kids[j],.int .i64 1] W fun e w' => e = .returned (.string ⟨Xs[j].toArray⟩) ∧ Bel W w')
  (hlen : (Lib.join (zipK keys Xs) [44,32]).length ≤ 1000000000) :
  Calls Tryz.prog 203 #[.slice no n nc,.agg #[.int .i64 7,.string ⟨s.toArray⟩,.int .i64 i,.slice ko m kc,.slice jo m jc]] w fun e w' => e = .returned (.string ⟨(123 :: (Lib.join (zipK keys Xs) [44,32] ++ [125])).toArray⟩) ∧ Bel w w' := by
 obtain ⟨V,hV⟩ : ∃ V,w.alloc (.cells #[.int .i64 7,.string ⟨s.toArray⟩,.int .i64 i,.slice ko m kc,.slice jo m jc] 65) = V := ⟨_,rfl⟩
 have BV : Bel w V := by rw [← hV]; exact Bel.alloc (Bel.refl w) _
 obtain ⟨y0,y1,y2,y3,y4⟩ : V.cell? ⟨w.heap.size,0,none⟩ = some (.int .i64 7) ∧ V.cell? ⟨w.heap.size,1,none⟩ = some (.string ⟨s.toArray⟩) ∧ V.cell? ⟨w.heap.size,2,none⟩ = some (.int .i64 i) ∧ V.cell? ⟨w.heap.size,3,none⟩ = some (.slice ko m kc) ∧ V.cell? ⟨w.heap.size,4,none⟩ = some (.slice jo m jc) := by rw [← hV]; exact box5 w _ _ _ _ _ _
 have HB := Lib.hid BV
 have HVe := Lib.hid hV
 have HY3 := Lib.hid y3
 have HY4 := Lib.hid y4
 have hzl : (zipK keys Xs).length = m := by unfold zipK; rw [List.length_zipWith,hX,hKs.1,Nat.min_self]
 have hzg : ∀ q (h : q < keys.length) (h' : q < Xs.length),(zipK keys Xs).getD q [] = keyT keys[q] ++ ([58,32] ++ Xs[q]) := fun q h h' => by
  unfold zipK
  rw [List.getD_eq_getElem?_getD,List.getElem?_eq_getElem (by rw [List.length_zipWith]; omega),Option.getD_some,List.getElem_zipWith]
 obtain ⟨Ys,hYs⟩ : ∃ Ys,zipK keys Xs = Ys := ⟨_,rfl⟩
 rw [hYs] at hzl hzg hlen ⊢
 have HZl := Lib.hid hzl
 have HZg := Lib.hid hzg
 have HLen := Lib.hid hlen
 have HX := Lib.hid hX
 have HXl := Lib.hid hXl
 have HKl := Lib.hid hkl
 have HZ := Lib.hid hZ
 have HK := Lib.hid hKs
 have Hb := Lib.hid hb
 have Hkk := Lib.hid hKs.1
 have Hzk := Lib.hid hZ.1
 clear hzl hzg hlen hX hXl hkl hZ hKs hb hYs BV hV
 go_enter Tryz.func203,Tryz.ntmps203
 go_wp2_with fail
 rw [HVe.out]
 go_loopw [7,8] (fun tv iv wr => ∃ (q : Nat) (T : ByteArray),tv = .string T ∧ iv = .int .i64 (q : Int) ∧ q ≤ m ∧ Hid (T.toList = 123 :: Lib.join (Ys.take q) [44,32]) ∧ Hid (Bel V wr)) (fun _ iv _ => m - (intOf iv).toNat)
 case atStart => exact ⟨0,_,rfl,rfl,Nat.zero_le _,Lib.hid (by rw [List.take_zero]; exact tlB _),Lib.hid (Bel.refl _)⟩
 case round =>
  obtain ⟨q,T,rfl,rfl,hq,HT,HBr⟩ := hrel
  rename World => wr
  have y3 := HBr.out.cell' HY3.out
  have y4 := HBr.out.cell' HY4.out
  have hTs : T.size ≤ 1000000001 := by
   rw [← Lex.toL_len,HT.out,List.length_cons]
   have := join_take_le Ys [44,32] q
   have := HLen.out
   omega
  rcases Nat.lt_or_ge q m with hqn | hqn
  ·have hqk : q < keys.length := by rw [Hkk.out]; exact hqn
   have hqz : q < kids.length := by rw [Hzk.out]; exact hqn
   have hqX : q < Xs.length := by rw [HX.out]; exact hqn
   obtain ⟨kb,kf,rfl,hkc⟩ := HK.out.2 (by omega)
   obtain ⟨zb,zf,rfl,hzc⟩ := za_addr HZ.out (by omega)
   have c0 := (Bel.trans HB.out HBr.out).cell' (hkc q hqk)
   have c1 := (Bel.trans HB.out HBr.out).cell' (hzc q hqz)
   have HE0 := Lib.hid (fun W (g : Bel wr W) => Hb.out q hqz hqX W (Bel.trans (Bel.trans HB.out HBr.out) g))
   have HQ0 := Lib.hid (fun W => rquoT_any keys[q] (HKl.out _ (List.getElem_mem hqk)) W)
   have hjt := join_take Ys [44,32] q (by rw [HZl.out]; exact hqn)
   rw [HZg.out q hqk hqX] at hjt
   have hXm := HXl.out _ (List.getElem_mem hqX)
   have hKm := keyT_len keys[q]
   rw [show Lex.txtT ⟨4,keys[q],0,0⟩ = keyT keys[q] from rfl] at HQ0
   obtain ⟨Xb,hXb⟩ : ∃ Xb : ByteArray,⟨Xs[q].toArray⟩ = Xb := ⟨_,rfl⟩
   obtain ⟨Kb,hKb⟩ : ∃ Kb : ByteArray,⟨(keyT keys[q]).toArray⟩ = Kb := ⟨_,rfl⟩
   have hXs : Xb.size ≤ 1000000000 := by rw [← hXb,← Lex.toL_len,tlB]; exact hXm
   have hKs : Kb.size ≤ 402 := by rw [← hKb,← Lex.toL_len,tlB]; exact hKm
   have hXl : Xb.toList = Xs[q] := by rw [← hXb]; exact tlB _
   have hKl : Kb.toList = keyT keys[q] := by rw [← hKb]; exact tlB _
   rw [hXb] at HE0
   rw [hKb] at HQ0
   rw [← hXl,← hKl] at hjt
   generalize kids[q] = z at *
   generalize keys[q] = ks at *
   have hq1 : (q : Int) < (m : Int) := by omega
   have hq0 : (0 : Int) ≤ (q : Int) := by omega
   clear hkc hzc hXb hKb hXl hKl hXm hKm hqk hqz hqX
   by_cases h0 : q = 0
   ·subst h0
    rw [Nat.add_zero] at c0 c1
    rw [if_pos rfl,List.nil_append] at hjt
    have hT0 : T.toList = [123] := HT.out
    have HT2 := Lib.hid (show (T ++ Kb ++ ⟨#[58,32]⟩ ++ Xb).toList = 123 :: Lib.join (Ys.take 1) [44,32] by
     rw [show Ys.take 1 = Ys.take (0 + 1) from rfl,hjt]
     simp [Go.ByteArray.toList_eq] at hT0 ⊢
     simp [hT0])
    clear hjt hT0 HT
    have HQ := Lib.hid (show ∀ W,(W.cell? ⟨w.heap.size,3,none⟩ = some (.slice (some ⟨kb,kf,none⟩) m kc) ∧ W.cell? ⟨w.heap.size,4,none⟩ = some (.slice (some ⟨zb,zf,none⟩) m jc) ∧ W.cell? ⟨kb,kf,none⟩ = some (.string ⟨ks.toArray⟩) ∧ W.cell? ⟨zb,zf,none⟩ = some (.int .i64 z) ∧ Bel wr W) → Calls Tryz.prog 249 #[.string ⟨ks.toArray⟩] W fun e w' => e = .returned (.string Kb) ∧ w'.cell? ⟨w.heap.size,3,none⟩ = some (.slice (some ⟨kb,kf,none⟩) m kc) ∧ w'.cell? ⟨w.heap.size,4,none⟩ = some (.slice (some ⟨zb,zf,none⟩) m jc) ∧ w'.cell? ⟨kb,kf,none⟩ = some (.string ⟨ks.toArray⟩) ∧ w'.cell? ⟨zb,zf,none⟩ = some (.int .i64 z) ∧ Bel wr w' from fun W hS => (HQ0.out W).mono fun e w' q => ⟨q.1,q.2.cell' hS.1,q.2.cell' hS.2.1,q.2.cell' hS.2.2.1,q.2.cell' hS.2.2.2.1,Bel.trans hS.2.2.2.2 q.2⟩)
    have HE := Lib.hid (show ∀ W,(W.cell? ⟨w.heap.size,3,none⟩ = some (.slice (some ⟨kb,kf,none⟩) m kc) ∧ W.cell? ⟨w.heap.size,4,none⟩ = some (.slice (some ⟨zb,zf,none⟩) m jc) ∧ W.cell? ⟨kb,kf,none⟩ = some (.string ⟨ks.toArray⟩) ∧ W.cell? ⟨zb,zf,none⟩ = some (.int .i64 z) ∧ Bel wr W) → Calls Tryz.prog 153 #[.slice no n nc,.int .i64 z,.int .i64 1] W fun e w' => e = .returned (.string Xb) ∧ w'.cell? ⟨w.heap.size,3,none⟩ = some (.slice (some ⟨kb,kf,none⟩) m kc) ∧ w'.cell? ⟨w.heap.size,4,none⟩ = some (.slice (some ⟨zb,zf,none⟩) m jc) ∧ w'.cell? ⟨kb,kf,none⟩ = some (.string ⟨ks.toArray⟩) ∧ w'.cell? ⟨zb,zf,none⟩ = some (.int .i64 z) ∧ Bel wr w' from fun W hS => (HE0.out W hS.2.2.2.2).mono fun e w' q => ⟨q.1,q.2.cell' hS.1,q.2.cell' hS.2.1,q.2.cell' hS.2.2.1,q.2.cell' hS.2.2.2.1,Bel.trans hS.2.2.2.2 q.2⟩)
    have f0 : (9223372036854775807 < T.size + 2) = False := eq_false (by omega)
    have f1 : (9223372036854775807 < T.size + Kb.size) = False := eq_false (by omega)
    have f2 : (9223372036854775807 < T.size + Kb.size + 2) = False := eq_false (by omega)
    have f3 : (9223372036854775807 < T.size + Kb.size + 2 + Xb.size) = False := eq_false (by omega)
    clear HQ0 HE0 hKs hXs hTs
    go_wp2_with fail
    go_region_held3 (fun W => W.cell? ⟨w.heap.size,3,none⟩ = some (.slice (some ⟨kb,kf,none⟩) m kc) ∧ W.cell? ⟨w.heap.size,4,none⟩ = some (.slice (some ⟨zb,zf,none⟩) m jc) ∧ W.cell? ⟨kb,kf,none⟩ = some (.string ⟨ks.toArray⟩) ∧ W.cell? ⟨zb,zf,none⟩ = some (.int .i64 z) ∧ Bel wr W) (first | exact ⟨a1,a2,a3,a4,a5⟩ | exact ⟨y3,y4,c0,c1,Below.drew (Bel.refl _)⟩) (first | (go_at_call 153; (with_reducible refine (HE.out _ ?_).mono ?_); (first | assumption | exact ⟨y3,y4,c0,c1,Below.drew (Bel.refl _)⟩); rintro e w' ⟨rfl,a1,a2,a3,a4,a5⟩) | (go_at_call 249; (with_reducible refine (HQ.out _ ?_).mono ?_); (first | assumption | exact ⟨y3,y4,c0,c1,Below.drew (Bel.refl _)⟩); rintro e w' ⟨rfl,a1,a2,a3,a4,a5⟩))
    all_goals
     have A5 := Lib.hid (Bel.trans HBr.out a5)
     go_wp2_with fail
     go_round
     case rel => exact ⟨1,_,rfl,by go_num,by omega,HT2,A5⟩
     case measure => first | (simp [intOf]; done) | (simp [intOf]; omega)
   ·rw [if_neg h0] at hjt
    have HT2 := Lib.hid (show (T ++ ⟨#[44,32]⟩ ++ Kb ++ ⟨#[58,32]⟩ ++ Xb).toList = 123 :: Lib.join (Ys.take (q + 1)) [44,32] by
     have hT0 := HT.out
     rw [hjt]
     simp [Go.ByteArray.toList_eq] at hT0 ⊢
     simp [hT0])
    have h0' : (0 : Int) < (q : Int) := by omega
    clear hjt HT h0
    have HQ := Lib.hid (show ∀ W,(W.cell? ⟨w.heap.size,3,none⟩ = some (.slice (some ⟨kb,kf,none⟩) m kc) ∧ W.cell? ⟨w.heap.size,4,none⟩ = some (.slice (some ⟨zb,zf,none⟩) m jc) ∧ W.cell? ⟨kb,kf + q,none⟩ = some (.string ⟨ks.toArray⟩) ∧ W.cell? ⟨zb,zf + q,none⟩ = some (.int .i64 z) ∧ Bel wr W) → Calls Tryz.prog 249 #[.string ⟨ks.toArray⟩] W fun e w' => e = .returned (.string Kb) ∧ w'.cell? ⟨w.heap.size,3,none⟩ = some (.slice (some ⟨kb,kf,none⟩) m kc) ∧ w'.cell? ⟨w.heap.size,4,none⟩ = some (.slice (some ⟨zb,zf,none⟩) m jc) ∧ w'.cell? ⟨kb,kf + q,none⟩ = some (.string ⟨ks.toArray⟩) ∧ w'.cell? ⟨zb,zf + q,none⟩ = some (.int .i64 z) ∧ Bel wr w' from fun W hS => (HQ0.out W).mono fun e w' q => ⟨q.1,q.2.cell' hS.1,q.2.cell' hS.2.1,q.2.cell' hS.2.2.1,q.2.cell' hS.2.2.2.1,Bel.trans hS.2.2.2.2 q.2⟩)
    have HE := Lib.hid (show ∀ W,(W.cell? ⟨w.heap.size,3,none⟩ = some (.slice (some ⟨kb,kf,none⟩) m kc) ∧ W.cell? ⟨w.heap.size,4,none⟩ = some (.slice (some ⟨zb,zf,none⟩) m jc) ∧ W.cell? ⟨kb,kf + q,none⟩ = some (.string ⟨ks.toArray⟩) ∧ W.cell? ⟨zb,zf + q,none⟩ = some (.int .i64 z) ∧ Bel wr W) → Calls Tryz.prog 153 #[.slice no n nc,.int .i64 z,.int .i64 1] W fun e w' => e = .returned (.string Xb) ∧ w'.cell? ⟨w.heap.size,3,none⟩ = some (.slice (some ⟨kb,kf,none⟩) m kc) ∧ w'.cell? ⟨w.heap.size,4,none⟩ = some (.slice (some ⟨zb,zf,none⟩) m jc) ∧ w'.cell? ⟨kb,kf + q,none⟩ = some (.string ⟨ks.toArray⟩) ∧ w'.cell? ⟨zb,zf + q,none⟩ = some (.int .i64 z) ∧ Bel wr w' from fun W hS => (HE0.out W hS.2.2.2.2).mono fun e w' q => ⟨q.1,q.2.cell' hS.1,q.2.cell' hS.2.1,q.2.cell' hS.2.2.1,q.2.cell' hS.2.2.2.1,Bel.trans hS.2.2.2.2 q.2⟩)
    have f0 : (9223372036854775807 < T.size + 2) = False := eq_false (by omega)
    have f1 : (9223372036854775807 < T.size + 2 + Kb.size) = False := eq_false (by omega)
    have f2 : (9223372036854775807 < T.size + 2 + Kb.size + 2) = False := eq_false (by omega)
    have f3 : (9223372036854775807 < T.size + 2 + Kb.size + 2 + Xb.size) = False := eq_false (by omega)
    clear HQ0 HE0 hKs hXs hTs
    go_wp2_with fail
    go_region_held3 (fun W => W.cell? ⟨w.heap.size,3,none⟩ = some (.slice (some ⟨kb,kf,none⟩) m kc) ∧ W.cell? ⟨w.heap.size,4,none⟩ = some (.slice (some ⟨zb,zf,none⟩) m jc) ∧ W.cell? ⟨kb,kf + q,none⟩ = some (.string ⟨ks.toArray⟩) ∧ W.cell? ⟨zb,zf + q,none⟩ = some (.int .i64 z) ∧ Bel wr W) (first | exact ⟨a1,a2,a3,a4,a5⟩ | exact ⟨y3,y4,c0,c1,Below.drew (Bel.refl _)⟩) (first | (go_at_call 153; (with_reducible refine (HE.out _ ?_).mono ?_); (first | assumption | exact ⟨y3,y4,c0,c1,Below.drew (Bel.refl _)⟩); rintro e w' ⟨rfl,a1,a2,a3,a4,a5⟩) | (go_at_call 249; (with_reducible refine (HQ.out _ ?_).mono ?_); (first | assumption | exact ⟨y3,y4,c0,c1,Below.drew (Bel.refl _)⟩); rintro e w' ⟨rfl,a1,a2,a3,a4,a5⟩))
    all_goals
     have A5 := Lib.hid (Bel.trans HBr.out a5)
     go_wp2_with fail
     go_round
     case rel => exact ⟨q + 1,_,rfl,by go_num,by omega,HT2,A5⟩
     case measure => first | (simp [intOf]; done) | (simp [intOf]; omega)
  ·obtain rfl : q = m := by omega
   have hT0 := HT.out
   rw [List.take_of_length_le (by rw [HZl.out]; exact Nat.le_refl _)] at hT0
   have HT2 := Lib.hid (show (T ++ ⟨#[125]⟩ : ByteArray) = ⟨(123 :: (Lib.join Ys [44,32] ++ [125])).toArray⟩ by
    have : (T ++ ⟨#[125]⟩ : ByteArray).toList = 123 :: (Lib.join Ys [44,32] ++ [125]) := by
     simp [Go.ByteArray.toList_eq] at hT0 ⊢
     simp [hT0]
    rw [← this]
    exact (Lex.str_back _).symm)
   have f0 : (9223372036854775807 < T.size + 1) = False := eq_false (by omega)
   clear hT0 HT hTs
   go_wp2_with fail
   go_ret
   exact ⟨by rw [← HT2.out]; rfl,Bel.trans HB.out HBr.out⟩
end Syn
end Go.Proofs.YtcapkeaedpabjaaGreatDoor
