/-
  Layer 8, texts merged: SchA, SchB, SchC, SchD, SchE. For every argument within the bounds that each theorem names.
-/
import Derived.Test.YtcapkeaedpabjaaGreatDoorYF6
import Derived.Test.YtcapkeaedpabjaaGreatDoorYD3
set_option maxRecDepth 100000
set_option maxHeartbeats 16000000

/-
 Layer 8: isToken, isString, isName, isNoName, roleOf, as the program has them.
-/
namespace Go.Proofs.YtcapkeaedpabjaaGreatDoor
open Go.RowKit Go.ChangeShapes Go.WideShapes
namespace Syn

def tkn (k : Int) (s : Txt) (i : Int) : Lex.Tk := ⟨k,s,i,0⟩
def nameB (s : Txt) : Bool := Lex.okT (tkn 1 s 0)
def strB (s : Txt) : Bool := Lex.okT (tkn 4 s 0)
def hostB (s : Txt) : Bool := Lex.okT (tkn 6 s 0)
def intB (i : Int) : Bool := Lex.okT (tkn 3 [] i)
theorem text_big (k i a : Int) (S : ByteArray) (hs : 1000 < S.size) (w : World) :
  Calls Tryz.prog 194 #[.agg #[.int .i64 k,.string S,.int .i64 i,.int .i64 a]] w fun e w' => e = .returned (.tuple #[.string ⟨#[]⟩,.int .i64 1]) ∧ Bel w w' := by
 have h2 : (200 : Int) < (S.size : Int) := by omega
 go_enter Tryz.func194,Tryz.ntmps194
 go_wp2_with fail
 go_ret2
 exact ⟨rfl,Bel.alloc (Bel.refl _) _⟩
theorem text_all (k i a : Int) (s : Txt) (hi : -9223372036854775808 ≤ i ∧ i ≤ 9223372036854775807) (w : World) (hm : Lex.ML w) :
  Calls Tryz.prog 194 #[.agg #[.int .i64 k,.string ⟨s.toArray⟩,.int .i64 i,.int .i64 a]] w fun e w' => e = .returned (.tuple #[.string ⟨(Lex.txtT ⟨k,s,i,a⟩).toArray⟩,.int .i64 (Lex.txtE ⟨k,s,i,a⟩)]) ∧ Bel w w' := by
 rcases Nat.lt_or_ge 1000 s.length with h | h
 ·have hno : ¬ Lex.okT ⟨k,s,i,a⟩ = true := fun ho => by
   have := (Lex.ok_len ho).1
   dsimp only at this
   omega
  obtain ⟨e1,e2⟩ := Lex.txt_no hno
  rw [e1,e2]
  exact text_big k i a ⟨s.toArray⟩ (by show 1000 < s.toArray.size; simpa using h) w
 ·have := Lex.text_any k i a ⟨s.toArray⟩ hi (by show s.toArray.size ≤ 1000; simpa using h) w hm
  rw [tl_list] at this
  exact this
theorem txtE_ok (t : Lex.Tk) : (Lex.txtE t == 0) = Lex.okT t := by
 cases h : Lex.okT t with
 | true => rw [(Lex.txt_yes h).2]; rfl
 | false => rw [(Lex.txt_no (by rw [h]; decide)).2]; rfl
theorem isTok_any (k i : Int) (s : Txt) (hi : -9223372036854775808 ≤ i ∧ i ≤ 9223372036854775807) (w : World) (hm : Lex.ML w) :
  Calls Tryz.prog 143 #[.agg #[.int .i64 k,.string ⟨s.toArray⟩,.int .i64 i,.int .i64 0]] w fun e w' => e = .returned (.bool (Lex.okT (tkn k s i))) ∧ Bel w w' := by
 have HT := Lib.hid (fun W (g : Bel w W) => text_all k i 0 s hi W (hm.on g))
 have hE := txtE_ok (tkn k s i)
 unfold tkn at hE ⊢
 generalize Lex.txtE ⟨k,s,i,0⟩ = E at *
 generalize (⟨(Lex.txtT ⟨k,s,i,0⟩).toArray⟩ : ByteArray) = R at *
 rw [← hE]
 clear hE
 go_enter Tryz.func143,Tryz.ntmps143
 go_wp2_with fail
 refine (HT.out _ (Bel.alloc (Bel.refl _) _)).mono ?_
 rintro e w' ⟨rfl,g⟩
 have G := Lib.hid (Bel.trans (Bel.alloc (Bel.refl w) _) g)
 clear g
 go_wp2_with fail
 go_ret
 exact ⟨rfl,G.out⟩
theorem isStr_any (s : Txt) (w : World) (hm : Lex.ML w) : Calls Tryz.prog 189 #[.string ⟨s.toArray⟩] w fun e w' => e = .returned (.bool (strB s)) ∧ Bel w w' := by
 have HT := Lib.hid (isTok_any 4 0 s (by decide) w hm)
 unfold strB
 generalize Lex.okT (tkn 4 s 0) = b at *
 go_enter Tryz.func189,Tryz.ntmps189
 go_wp2_with fail
 refine HT.out.mono ?_
 rintro e w' ⟨rfl,g⟩
 have G := Lib.hid g
 clear g
 go_wp2_with fail
 go_ret
 exact ⟨rfl,G.out⟩
theorem isName_any (s : Txt) (w : World) (hm : Lex.ML w) : Calls Tryz.prog 84 #[.string ⟨s.toArray⟩] w fun e w' => e = .returned (.bool (nameB s)) ∧ Bel w w' := by
 have HT := Lib.hid (isTok_any 1 0 s (by decide) w hm)
 unfold nameB
 generalize Lex.okT (tkn 1 s 0) = b at *
 go_enter Tryz.func84,Tryz.ntmps84
 go_wp2_with fail
 refine HT.out.mono ?_
 rintro e w' ⟨rfl,g⟩
 have G := Lib.hid g
 clear g
 go_wp2_with fail
 go_ret
 exact ⟨rfl,G.out⟩
theorem isNoName_any (s : Txt) (w : World) (hm : Lex.ML w) : Calls Tryz.prog 86 #[.string ⟨s.toArray⟩] w fun e w' => e = .returned (.bool (!nameB s)) ∧ Bel w w' := by
 have HT := Lib.hid (isName_any s w hm)
 generalize nameB s = b at *
 go_enter Tryz.func86,Tryz.ntmps86
 go_wp2_with fail
 refine HT.out.mono ?_
 rintro e w' ⟨rfl,g⟩
 have G := Lib.hid g
 clear g
 go_wp2_with fail
 go_ret
 exact ⟨rfl,G.out⟩
def roleI (k : Int) : Int := if 1 ≤ k ∧ k ≤ 12 then 1 else if 13 ≤ k ∧ k ≤ 18 then 2 else if k = 19 then 3 else 0
theorem roleOf_any (k : Int) (w : World) : Calls Tryz.prog 193 #[.int .i64 k] w fun e w' => e = .returned (.int .i64 (roleI k)) ∧ w' = w := by
 rcases (show (1 ≤ k ∧ k ≤ 12) ∨ (13 ≤ k ∧ k ≤ 18) ∨ k = 19 ∨ (k < 1 ∨ 19 < k) by omega) with ⟨h1,h2⟩ | ⟨h1,h2⟩ | rfl | h1
 ·have e : roleI k = 1 := by unfold roleI; rw [if_pos ⟨h1,h2⟩]
  rw [e]
  clear e
  go_enter Tryz.func193,Tryz.ntmps193
  go_wp2
  all_goals first | (exfalso; omega) | (go_ret; exact ⟨rfl,rfl⟩)
 ·have e : roleI k = 2 := by unfold roleI; rw [if_neg (by omega),if_pos ⟨h1,h2⟩]
  rw [e]
  clear e
  go_enter Tryz.func193,Tryz.ntmps193
  go_wp2
  all_goals first | (exfalso; omega) | (go_ret; exact ⟨rfl,rfl⟩)
 ·have e : roleI 19 = 3 := by decide
  rw [e]
  clear e
  go_enter Tryz.func193,Tryz.ntmps193
  go_wp2
  all_goals first | (exfalso; omega) | (go_ret; exact ⟨rfl,rfl⟩)
 ·have e : roleI k = 0 := by unfold roleI; rw [if_neg (by omega),if_neg (by omega),if_neg (by omega)]
  rw [e]
  clear e
  go_enter Tryz.func193,Tryz.ntmps193
  go_wp2
  all_goals first | (exfalso; omega) | (go_ret; exact ⟨rfl,rfl⟩)

def fixI {α : Type} (q : α → Bool) : Nat → List α → Int
 | _,[] => -1
 | k,a :: r => if q a then (k : Int) else fixI q (k + 1) r
theorem fixI_any {α : Type} (q : α → Bool) : ∀ (k : Nat) (l : List α),(l.any q = true ∧ 0 ≤ fixI q k l) ∨ (l.any q = false ∧ fixI q k l = -1)
 | k,[] => Or.inr ⟨rfl,rfl⟩
 | k,a :: r => by
  rw [List.any_cons,fixI]
  cases h : q a with
  | true => exact Or.inl ⟨rfl,by rw [if_pos rfl]; omega⟩
  | false => rw [if_neg (by decide),Bool.false_or]; exact fixI_any q (k + 1) r
theorem fixI_at {α : Type} {q : α → Bool} {k : Nat} {l : List α} {X : Int} (hk : k < l.length) (h : fixI q k (l.drop k) = X) : (q l[k] = true ∧ X = (k : Int)) ∨ (q l[k] = false ∧ fixI q (k + 1) (l.drop (k + 1)) = X) := by
 rw [List.drop_eq_getElem_cons hk,fixI] at h
 cases hq : q l[k] with
 | true => rw [hq,if_pos rfl] at h; exact Or.inl ⟨rfl,h.symm⟩
 | false => rw [hq,if_neg (by decide)] at h; exact Or.inr ⟨rfl,h⟩
theorem fixI_end {α : Type} {q : α → Bool} {k : Nat} {l : List α} {X : Int} (hk : l.length ≤ k) (h : fixI q k (l.drop k) = X) : X = -1 := by
 rw [List.drop_eq_nil_of_le hk] at h
 exact h.symm
def Asks (F : FuncId) (caps : Array Value) (w0 : World) (v : Value) (b : Bool) : Prop := ∀ W,Bel w0 W → Calls Tryz.prog F (#[v] ++ caps) W fun e w' => e = .returned (.bool b) ∧ Bel W w'
theorem role_idx {F : FuncId} (caps : Array Value) (hent : ∀ (args : Array Value) (w : World),(callFunc F args).run Tryz.prog w = .ok (.enter F args) w) (l : List Int) (q : Int → Bool) (n c : Nat) (o : Option Addr) (hn : n ≤ 4611686018427387904) (w : World) (hl : l.length = n) (hA : 0 < n → ∃ b off,o = some ⟨b,off,none⟩ ∧ ∀ i (h : i < l.length),w.cell? ⟨b,off + i,none⟩ = some (.int .i64 l[i])) (hq : ∀ i (h : i < l.length),Asks F caps w (.int .i64 l[i]) (q l[i])) :
  Calls Tryz.prog 263 #[.slice o n c,.func (.func F) #[] caps] w fun e w' => e = .returned (.int .i64 (fixI q 0 l)) ∧ Bel w w' := by
 obtain ⟨X,hX⟩ : ∃ X,fixI q 0 l = X := ⟨_,rfl⟩
 rw [hX]
 have HX := Lib.hid hX
 have Hq := Lib.hid hq
 have HL := Lib.hid hl
 clear hX hq hl
 by_cases h0 : n = 0
 ·subst h0
  have hz : Hid (X = -1) := Lib.hid (by
   have e : l = [] := List.eq_nil_of_length_eq_zero HL.out
   rw [← HX.out,e]
   rfl)
  clear hA
  go_enter Tryz.func263,Tryz.ntmps263
  go_wp2_with fail
  go_loopw [8] (fun iv wr => iv = .int .i64 0 ∧ wr = w) (fun _ _ => 0)
  case atStart => exact ⟨rfl,rfl⟩
  case round =>
   obtain ⟨rfl,rfl⟩ := hrel
   go_wp2
   go_ret
   exact ⟨by rw [hz.out]; rfl,Bel.refl _⟩
 ·obtain ⟨b,off,rfl,hc⟩ := hA (by omega)
  have HC := Lib.hid hc
  have hn0 : (0 : Int) < (n : Int) := by omega
  clear hA hc
  go_enter Tryz.func263,Tryz.ntmps263
  go_wp2_with fail
  go_loopw [8] (fun iv wr => ∃ k : Nat,iv = .int .i64 (k : Int) ∧ k ≤ n ∧ Hid (fixI q k (l.drop k) = X) ∧ Hid (Bel w wr)) (fun iv _ => n - (intOf iv).toNat)
  case atStart => exact ⟨0,rfl,Nat.zero_le _,HX,Lib.hid (Bel.refl _)⟩
  case round =>
   obtain ⟨k,rfl,hk,HM,HB⟩ := hrel
   rename World => wr
   rcases Nat.lt_or_ge k n with hkn | hkn
   ·have hkl : k < l.length := by rw [HL.out]; exact hkn
    have c0 := HB.out.cell' (HC.out k hkl)
    have hQ := Hq.out k hkl
    rcases fixI_at hkl HM.out with ⟨h1,h2⟩ | ⟨h1,h2⟩
    ·rw [h1] at hQ
     have HQ := Lib.hid hQ
     have hz := Lib.hid h2
     clear hQ h1 h2
     go_wp2_with fail
     refine (HQ.out _ HB.out).mono ?_
     rintro e w2 ⟨rfl,g⟩
     have G := Lib.hid (Bel.trans HB.out g)
     clear g
     go_wp2_with fail
     go_ret
     exact ⟨by rw [hz.out]; rfl,G.out⟩
    ·rw [h1] at hQ
     have HQ := Lib.hid hQ
     have hM2 := Lib.hid h2
     clear hQ h1 h2
     go_wp2_with fail
     refine (HQ.out _ HB.out).mono ?_
     rintro e w2 ⟨rfl,g⟩
     have G := Lib.hid (Bel.trans HB.out g)
     clear g
     go_wp2_with fail
     go_round
     case rel => exact ⟨k + 1,by go_num,by omega,hM2,G⟩
     case measure => simp [intOf]; omega
   ·have hz : Hid (X = -1) := Lib.hid (fixI_end (by rw [HL.out]; exact hkn) HM.out)
    obtain rfl : k = n := by omega
    go_wp2_with fail
    go_ret
    exact ⟨by rw [hz.out]; rfl,HB.out⟩
theorem role_has {F : FuncId} (caps : Array Value) (hent : ∀ (args : Array Value) (w : World),(callFunc F args).run Tryz.prog w = .ok (.enter F args) w) (l : List Int) (q : Int → Bool) (n c : Nat) (o : Option Addr) (hn : n ≤ 4611686018427387904) (w : World) (hl : l.length = n) (hA : 0 < n → ∃ b off,o = some ⟨b,off,none⟩ ∧ ∀ i (h : i < l.length),w.cell? ⟨b,off + i,none⟩ = some (.int .i64 l[i])) (hq : ∀ i (h : i < l.length),Asks F caps w (.int .i64 l[i]) (q l[i])) :
  Calls Tryz.prog 239 #[.slice o n c,.func (.func F) #[] caps] w fun e w' => e = .returned (.bool (l.any q)) ∧ Bel w w' := by
 have H := Lib.hid (role_idx caps hent l q n c o hn w hl hA hq)
 rcases fixI_any q 0 l with ⟨h1,h2⟩ | ⟨h1,h2⟩
 ·rw [h1]
  generalize fixI q 0 l = X at *
  clear hA hq h1 hl
  go_enter Tryz.func239,Tryz.ntmps239
  go_wp2_with fail
  refine H.out.mono ?_
  rintro e w2 ⟨rfl,g⟩
  have G := Lib.hid g
  clear g
  go_wp2_with fail
  go_ret
  exact ⟨by simp,G.out⟩
 ·rw [h2] at H
  rw [h1]
  clear hA hq h1 h2 hl
  go_enter Tryz.func239,Tryz.ntmps239
  go_wp2_with fail
  refine H.out.mono ?_
  rintro e w2 ⟨rfl,g⟩
  have G := Lib.hid g
  clear g
  go_wp2_with fail
  go_ret
  exact ⟨rfl,G.out⟩
theorem str_idx {F : FuncId} (caps : Array Value) (hent : ∀ (args : Array Value) (w : World),(callFunc F args).run Tryz.prog w = .ok (.enter F args) w) (l : List Txt) (q : Txt → Bool) (n c : Nat) (o : Option Addr) (hn : n ≤ 4611686018427387904) (w : World) (hl : l.length = n) (hA : 0 < n → ∃ b off,o = some ⟨b,off,none⟩ ∧ ∀ i (h : i < l.length),w.cell? ⟨b,off + i,none⟩ = some (.string ⟨l[i].toArray⟩)) (hq : ∀ i (h : i < l.length),Asks F caps w (.string ⟨l[i].toArray⟩) (q l[i])) :
  Calls Tryz.prog 144 #[.slice o n c,.func (.func F) #[] caps] w fun e w' => e = .returned (.int .i64 (fixI q 0 l)) ∧ Bel w w' := by
 obtain ⟨X,hX⟩ : ∃ X,fixI q 0 l = X := ⟨_,rfl⟩
 rw [hX]
 have HX := Lib.hid hX
 have Hq := Lib.hid hq
 have HL := Lib.hid hl
 clear hX hq hl
 by_cases h0 : n = 0
 ·subst h0
  have hz : Hid (X = -1) := Lib.hid (by
   have e : l = [] := List.eq_nil_of_length_eq_zero HL.out
   rw [← HX.out,e]
   rfl)
  clear hA
  go_enter Tryz.func144,Tryz.ntmps144
  go_wp2_with fail
  go_loopw [8] (fun iv wr => iv = .int .i64 0 ∧ wr = w) (fun _ _ => 0)
  case atStart => exact ⟨rfl,rfl⟩
  case round =>
   obtain ⟨rfl,rfl⟩ := hrel
   go_wp2
   go_ret
   exact ⟨by rw [hz.out]; rfl,Bel.refl _⟩
 ·obtain ⟨b,off,rfl,hc⟩ := hA (by omega)
  have HC := Lib.hid hc
  have hn0 : (0 : Int) < (n : Int) := by omega
  clear hA hc
  go_enter Tryz.func144,Tryz.ntmps144
  go_wp2_with fail
  go_loopw [8] (fun iv wr => ∃ k : Nat,iv = .int .i64 (k : Int) ∧ k ≤ n ∧ Hid (fixI q k (l.drop k) = X) ∧ Hid (Bel w wr)) (fun iv _ => n - (intOf iv).toNat)
  case atStart => exact ⟨0,rfl,Nat.zero_le _,HX,Lib.hid (Bel.refl _)⟩
  case round =>
   obtain ⟨k,rfl,hk,HM,HB⟩ := hrel
   rename World => wr
   rcases Nat.lt_or_ge k n with hkn | hkn
   ·have hkl : k < l.length := by rw [HL.out]; exact hkn
    have c0 := HB.out.cell' (HC.out k hkl)
    have hQ := Hq.out k hkl
    rcases fixI_at hkl HM.out with ⟨h1,h2⟩ | ⟨h1,h2⟩
    ·rw [h1] at hQ
     have HQ := Lib.hid hQ
     have hz := Lib.hid h2
     clear hQ h1 h2
     go_wp2_with fail
     refine (HQ.out _ HB.out).mono ?_
     rintro e w2 ⟨rfl,g⟩
     have G := Lib.hid (Bel.trans HB.out g)
     clear g
     go_wp2_with fail
     go_ret
     exact ⟨by rw [hz.out]; rfl,G.out⟩
    ·rw [h1] at hQ
     have HQ := Lib.hid hQ
     have hM2 := Lib.hid h2
     clear hQ h1 h2
     go_wp2_with fail
     refine (HQ.out _ HB.out).mono ?_
     rintro e w2 ⟨rfl,g⟩
     have G := Lib.hid (Bel.trans HB.out g)
     clear g
     go_wp2_with fail
     go_round
     case rel => exact ⟨k + 1,by go_num,by omega,hM2,G⟩
     case measure => simp [intOf]; omega
   ·have hz : Hid (X = -1) := Lib.hid (fixI_end (by rw [HL.out]; exact hkn) HM.out)
    obtain rfl : k = n := by omega
    go_wp2_with fail
    go_ret
    exact ⟨by rw [hz.out]; rfl,HB.out⟩
theorem str_has {F : FuncId} (caps : Array Value) (hent : ∀ (args : Array Value) (w : World),(callFunc F args).run Tryz.prog w = .ok (.enter F args) w) (l : List Txt) (q : Txt → Bool) (n c : Nat) (o : Option Addr) (hn : n ≤ 4611686018427387904) (w : World) (hl : l.length = n) (hA : 0 < n → ∃ b off,o = some ⟨b,off,none⟩ ∧ ∀ i (h : i < l.length),w.cell? ⟨b,off + i,none⟩ = some (.string ⟨l[i].toArray⟩)) (hq : ∀ i (h : i < l.length),Asks F caps w (.string ⟨l[i].toArray⟩) (q l[i])) :
  Calls Tryz.prog 85 #[.slice o n c,.func (.func F) #[] caps] w fun e w' => e = .returned (.bool (l.any q)) ∧ Bel w w' := by
 have H := Lib.hid (str_idx caps hent l q n c o hn w hl hA hq)
 rcases fixI_any q 0 l with ⟨h1,h2⟩ | ⟨h1,h2⟩
 ·rw [h1]
  generalize fixI q 0 l = X at *
  clear hA hq h1 hl
  go_enter Tryz.func85,Tryz.ntmps85
  go_wp2_with fail
  refine H.out.mono ?_
  rintro e w2 ⟨rfl,g⟩
  have G := Lib.hid g
  clear g
  go_wp2_with fail
  go_ret
  exact ⟨by simp,G.out⟩
 ·rw [h2] at H
  rw [h1]
  clear hA hq h1 h2 hl
  go_enter Tryz.func85,Tryz.ntmps85
  go_wp2_with fail
  refine H.out.mono ?_
  rintro e w2 ⟨rfl,g⟩
  have G := Lib.hid g
  clear g
  go_wp2_with fail
  go_ret
  exact ⟨rfl,G.out⟩
theorem func_idx {F : FuncId} (caps : Array Value) (hent : ∀ (args : Array Value) (w : World),(callFunc F args).run Tryz.prog w = .ok (.enter F args) w) (l : List Fw) (q : Fw → Bool) (n c : Nat) (o : Option Addr) (hn : n ≤ 4611686018427387904) (w : World) (hl : l.length = n) (hA : 0 < n → ∃ b off,o = some ⟨b,off,none⟩ ∧ ∀ i (h : i < l.length),∃ v : Fv,FFit w v l[i] ∧ ∀ j u,(encF v)[j]? = some u → w.cell? ⟨b,off + i * 3 + j,none⟩ = some u) (hq : ∀ i (h : i < l.length),∀ v : Fv,FFit w v l[i] → Asks F caps w (.agg #[.string ⟨v.s.toArray⟩,.slice v.po v.k v.pc,.int .i64 v.j]) (q l[i])) :
  Calls Tryz.prog 77 #[.slice o n c,.func (.func F) #[] caps] w fun e w' => e = .returned (.int .i64 (fixI q 0 l)) ∧ Bel w w' := by
 obtain ⟨X,hX⟩ : ∃ X,fixI q 0 l = X := ⟨_,rfl⟩
 rw [hX]
 have HX := Lib.hid hX
 have Hq := Lib.hid hq
 have HL := Lib.hid hl
 clear hX hq hl
 by_cases h0 : n = 0
 ·subst h0
  have hz : Hid (X = -1) := Lib.hid (by
   have e : l = [] := List.eq_nil_of_length_eq_zero HL.out
   rw [← HX.out,e]
   rfl)
  clear hA
  go_enter Tryz.func77,Tryz.ntmps77
  go_wp2_with fail
  go_loopw [8] (fun iv wr => iv = .int .i64 0 ∧ wr = w) (fun _ _ => 0)
  case atStart => exact ⟨rfl,rfl⟩
  case round =>
   obtain ⟨rfl,rfl⟩ := hrel
   go_wp2
   go_ret
   exact ⟨by rw [hz.out]; rfl,Bel.refl _⟩
 ·obtain ⟨b,off,rfl,hc⟩ := hA (by omega)
  have HC := Lib.hid hc
  have hn0 : (0 : Int) < (n : Int) := by omega
  clear hA hc
  go_enter Tryz.func77,Tryz.ntmps77
  go_wp2_with fail
  go_loopw [8] (fun iv wr => ∃ k : Nat,iv = .int .i64 (k : Int) ∧ k ≤ n ∧ Hid (fixI q k (l.drop k) = X) ∧ Hid (Bel w wr)) (fun iv _ => n - (intOf iv).toNat)
  case atStart => exact ⟨0,rfl,Nat.zero_le _,HX,Lib.hid (Bel.refl _)⟩
  case round =>
   obtain ⟨k,rfl,hk,HM,HB⟩ := hrel
   rename World => wr
   rcases Nat.lt_or_ge k n with hkn | hkn
   ·have hkl : k < l.length := by rw [HL.out]; exact hkn
    obtain ⟨v,hv,hcc⟩ := HC.out k hkl
    have c0 : wr.cell? ⟨b,off + k * 3,none⟩ = some (.string ⟨v.s.toArray⟩) := HB.out.cell' (by simpa using hcc 0 _ rfl)
    have c1 : wr.cell? ⟨b,off + k * 3 + 1,none⟩ = some (.slice v.po v.k v.pc) := HB.out.cell' (by simpa using hcc 1 _ rfl)
    have c2 : wr.cell? ⟨b,off + k * 3 + 2,none⟩ = some (.int .i64 v.j) := HB.out.cell' (by simpa using hcc 2 _ rfl)
    have hQ := Hq.out k hkl v hv
    rcases fixI_at hkl HM.out with ⟨h1,h2⟩ | ⟨h1,h2⟩
    ·rw [h1] at hQ
     have HQ := Lib.hid hQ
     have hz := Lib.hid h2
     clear hQ h1 h2
     go_wp2_with fail
     refine (HQ.out _ HB.out).mono ?_
     rintro e w2 ⟨rfl,g⟩
     have G := Lib.hid (Bel.trans HB.out g)
     clear g
     go_wp2_with fail
     go_ret
     exact ⟨by rw [hz.out]; rfl,G.out⟩
    ·rw [h1] at hQ
     have HQ := Lib.hid hQ
     have hM2 := Lib.hid h2
     clear hQ h1 h2
     go_wp2_with fail
     refine (HQ.out _ HB.out).mono ?_
     rintro e w2 ⟨rfl,g⟩
     have G := Lib.hid (Bel.trans HB.out g)
     clear g
     go_wp2_with fail
     go_round
     case rel => exact ⟨k + 1,by go_num,by omega,hM2,G⟩
     case measure => simp [intOf]; omega
   ·have hz : Hid (X = -1) := Lib.hid (fixI_end (by rw [HL.out]; exact hkn) HM.out)
    obtain rfl : k = n := by omega
    go_wp2_with fail
    go_ret
    exact ⟨by rw [hz.out]; rfl,HB.out⟩
theorem func_has {F : FuncId} (caps : Array Value) (hent : ∀ (args : Array Value) (w : World),(callFunc F args).run Tryz.prog w = .ok (.enter F args) w) (l : List Fw) (q : Fw → Bool) (n c : Nat) (o : Option Addr) (hn : n ≤ 4611686018427387904) (w : World) (hl : l.length = n) (hA : 0 < n → ∃ b off,o = some ⟨b,off,none⟩ ∧ ∀ i (h : i < l.length),∃ v : Fv,FFit w v l[i] ∧ ∀ j u,(encF v)[j]? = some u → w.cell? ⟨b,off + i * 3 + j,none⟩ = some u) (hq : ∀ i (h : i < l.length),∀ v : Fv,FFit w v l[i] → Asks F caps w (.agg #[.string ⟨v.s.toArray⟩,.slice v.po v.k v.pc,.int .i64 v.j]) (q l[i])) :
  Calls Tryz.prog 87 #[.slice o n c,.func (.func F) #[] caps] w fun e w' => e = .returned (.bool (l.any q)) ∧ Bel w w' := by
 have H := Lib.hid (func_idx caps hent l q n c o hn w hl hA hq)
 rcases fixI_any q 0 l with ⟨h1,h2⟩ | ⟨h1,h2⟩
 ·rw [h1]
  generalize fixI q 0 l = X at *
  clear hA hq h1 hl
  go_enter Tryz.func87,Tryz.ntmps87
  go_wp2_with fail
  refine H.out.mono ?_
  rintro e w2 ⟨rfl,g⟩
  have G := Lib.hid g
  clear g
  go_wp2_with fail
  go_ret
  exact ⟨by simp,G.out⟩
 ·rw [h2] at H
  rw [h1]
  clear hA hq h1 h2 hl
  go_enter Tryz.func87,Tryz.ntmps87
  go_wp2_with fail
  refine H.out.mono ?_
  rintro e w2 ⟨rfl,g⟩
  have G := Lib.hid g
  clear g
  go_wp2_with fail
  go_ret
  exact ⟨rfl,G.out⟩

def RArg (w : World) (o : Option Addr) (n : Nat) (l : List Int) : Prop := l.length = n ∧ (0 < n → ∃ b off,o = some ⟨b,off,none⟩ ∧ ∀ i (h : i < l.length),w.cell? ⟨b,off + i,none⟩ = some (.int .i64 l[i]))
theorem RArg.on {w w' : World} {o : Option Addr} {n : Nat} {l : List Int} (h : RArg w o n l) (g : Bel w w') : RArg w' o n l :=
 ⟨h.1,fun h0 => let ⟨b,off,e,k⟩ := h.2 h0; ⟨b,off,e,fun i hi => g.cell' (k i hi)⟩⟩
theorem drop_eq_at {l m : List Int} {k : Nat} (h1 : k < l.length) (h2 : k < m.length) : decide (l.drop k = m.drop k) = (l[k] == m[k] && decide (l.drop (k + 1) = m.drop (k + 1))) := by
 rw [List.drop_eq_getElem_cons h1,List.drop_eq_getElem_cons h2]
 rw [Bool.eq_iff_iff]
 simp only [decide_eq_true_eq,Bool.and_eq_true,beq_iff_eq,List.cons.injEq]
theorem eqR_any (o1 o2 : Option Addr) (n m c1 c2 : Nat) (l1 l2 : List Int) (hn : n ≤ 4611686018427387904) (hm : m ≤ 4611686018427387904) (w : World) (hA : RArg w o1 n l1) (hB : RArg w o2 m l2) :
  Calls Tryz.prog 241 #[.slice o1 n c1,.slice o2 m c2] w fun e w' => e = .returned (.bool (decide (l1 = l2))) ∧ Bel w w' := by
 have k1 := hA.1
 have k2 := hB.1
 by_cases h0 : n = m
 ·subst h0
  by_cases hz : n = 0
  ·subst hz
   have e1 : l1 = [] := List.eq_nil_of_length_eq_zero k1
   have e2 : l2 = [] := List.eq_nil_of_length_eq_zero k2
   subst e1 e2
   clear hA hB
   go_enter Tryz.func241,Tryz.ntmps241
   go_wp2_with fail
   go_loopw [13] (fun iv wr => iv = .int .i64 0 ∧ wr = w) (fun _ _ => 0)
   case atStart => exact ⟨rfl,rfl⟩
   case round =>
    obtain ⟨rfl,rfl⟩ := hrel
    go_wp2
    go_ret
    exact ⟨rfl,Bel.refl _⟩
  ·obtain ⟨b,off,rfl,hc⟩ := hA.2 (by omega)
   obtain ⟨b2,off2,rfl,hc2⟩ := hB.2 (by omega)
   obtain ⟨X,hX⟩ : ∃ X,decide (l1 = l2) = X := ⟨_,rfl⟩
   have HX := Lib.hid hX
   rw [hX]
   have K1 := Lib.hid k1
   have K2 := Lib.hid k2
   have HC := Lib.hid hc
   have HC2 := Lib.hid hc2
   have hn0 : (0 : Int) < (n : Int) := by omega
   clear hA hB hc hc2 k1 k2 hX
   go_enter Tryz.func241,Tryz.ntmps241
   go_wp2_with fail
   go_loopw [13] (fun iv wr => ∃ k : Nat,iv = .int .i64 (k : Int) ∧ k ≤ n ∧ Hid (decide (l1.drop k = l2.drop k) = X) ∧ Hid (Bel w wr)) (fun iv _ => n - (intOf iv).toNat)
   case atStart => exact ⟨0,rfl,Nat.zero_le _,HX,Lib.hid (Bel.refl _)⟩
   case round =>
    obtain ⟨k,rfl,hk,HM,HB⟩ := hrel
    rename World => wr
    rcases Nat.lt_or_ge k n with hkn | hkn
    ·have q1 : k < l1.length := by rw [K1.out]; exact hkn
     have q2 : k < l2.length := by rw [K2.out]; exact hkn
     have c0 := HB.out.cell' (HC.out k q1)
     have c02 := HB.out.cell' (HC2.out k q2)
     have hM := HM.out
     rw [drop_eq_at q1 q2] at hM
     generalize l1[k] = u at *
     generalize l2[k] = v at *
     by_cases huv : u = v
     ·subst huv
      have hM2 : Hid (decide (l1.drop (k + 1) = l2.drop (k + 1)) = X) := Lib.hid (by rw [← hM]; simp)
      clear hM HM
      go_wp2_with fail
      go_quiet (fail)
      go_wp2_with fail
      go_round
      case rel => exact ⟨k + 1,by go_num,by omega,hM2,Lib.hid (Bel.drewN HB.out _)⟩
      case measure => simp [intOf]; omega
     ·have hz2 : Hid (X = false) := Lib.hid (by rw [← hM]; simp [huv])
      have buv : (u == v) = false := by simpa using huv
      clear hM HM
      go_wp2_with fail
      go_quiet (fail)
      go_wp2_with fail
      go_ret
      exact ⟨by rw [hz2.out]; rfl,Bel.drewN HB.out _⟩
    ·have hz2 : Hid (X = true) := Lib.hid (by
      have := HM.out
      rw [List.drop_eq_nil_of_le (by rw [K1.out]; exact hkn),List.drop_eq_nil_of_le (by rw [K2.out]; exact hkn)] at this
      rw [← this]
      rfl)
     obtain rfl : k = n := by omega
     go_wp2_with fail
     go_ret
     exact ⟨by rw [hz2.out]; rfl,HB.out⟩
 ·have hne : decide (l1 = l2) = false := by
   rw [decide_eq_false_iff_not]
   intro e
   rw [e] at k1
   omega
  rw [hne]
  have h0' : ¬ (n : Int) = (m : Int) := by omega
  clear hA hB
  go_enter Tryz.func241,Tryz.ntmps241
  go_wp2_with fail
  go_ret
  exact ⟨rfl,Bel.refl _⟩
theorem ent_all : ∀ args w,(callFunc 240 args).run Tryz.prog w = .ok (.enter 240 args) w := enters_of Tryz.func240 (by kernel_rfl) rfl
theorem ent_noName : ∀ args w,(callFunc 86 args).run Tryz.prog w = .ok (.enter 86 args) w := enters_of Tryz.func86 (by kernel_rfl) rfl
theorem ent_many : ∀ args w,(callFunc 88 args).run Tryz.prog w = .ok (.enter 88 args) w := enters_of Tryz.func88 (by kernel_rfl) rfl
theorem are_any (o1 o2 : Option Addr) (n m c1 c2 : Nat) (l1 l2 : List Int) (hn : n ≤ 4611686018427387904) (hm : m ≤ 4611686018427387904) (w : World) (hA : RArg w o1 n l1) (hB : RArg w o2 m l2) :
  Calls Tryz.prog 192 #[.slice o1 n c1,.slice o2 m c2] w fun e w' => e = .returned (.bool (decide (l1 = l2))) ∧ Bel w w' := by
 have H := Lib.hid (eqR_any o1 o2 n m c1 c2 l1 l2 hn hm w hA hB)
 generalize decide (l1 = l2) = b at *
 clear hA hB
 go_enter Tryz.func192,Tryz.ntmps192
 go_wp2_with fail
 refine H.out.mono ?_
 rintro e w2 ⟨rfl,g⟩
 have G := Lib.hid g
 clear g
 go_wp2_with fail
 go_ret
 exact ⟨rfl,G.out⟩
theorem ask_all (w : World) (B : Nat) (r v : Int) (hB : w.cell? ⟨B,0,none⟩ = some (.int .i64 r)) : Asks 240 #[.pointer (some ⟨B,0,none⟩)] w (.int .i64 v) (v != r) := by
 intro W g
 have c0 := g.cell' hB
 show Calls Tryz.prog _ #[.int .i64 v,.pointer (some ⟨B,0,none⟩)] W _
 clear g hB
 go_enter Tryz.func240,Tryz.ntmps240
 go_wp2_with fail
 go_ret
 exact ⟨rfl,Bel.refl _⟩
theorem areAll_any (o : Option Addr) (n c : Nat) (l : List Int) (r : Int) (hn : n ≤ 4611686018427387904) (w : World) (hA : RArg w o n l) :
  Calls Tryz.prog 191 #[.slice o n c,.int .i64 r] w fun e w' => e = .returned (.bool (!l.any fun v => v != r)) ∧ Bel w w' := by
 have hmf := hmf_any
 have B := Bel.alloc (Bel.refl w) (.cells #[.int .i64 r] 182)
 have hA' := hA.on B
 have hb : (w.alloc (.cells #[.int .i64 r] 182)).cell? ⟨w.heap.size,0,none⟩ = some (.int .i64 r) := World.cell?_alloc_new ..
 have H := Lib.hid (role_has #[.pointer (some ⟨w.heap.size,0,none⟩)] ent_all l (fun v => v != r) n c o hn _ hA'.1 hA'.2 (fun i hi => ask_all _ _ r l[i] hb))
 have HB := Lib.hid B
 generalize (l.any fun v => v != r) = b at *
 clear hA hA' hb B
 go_enter Tryz.func191,Tryz.ntmps191
 go_wp2_with fail
 refine H.out.mono ?_
 rintro e w2 ⟨rfl,g⟩
 have G := Lib.hid (Bel.trans HB.out g)
 clear g
 go_wp2_with fail
 go_ret
 exact ⟨rfl,G.out⟩
theorem ask_noName (w : World) (hm : Lex.ML w) (s : Txt) : Asks 86 #[] w (.string ⟨s.toArray⟩) (!nameB s) := fun W g => isNoName_any s W (hm.on g)
theorem ask_many (w : World) (s : Txt) (po : Option Addr) (k pc : Nat) (j : Int) : Asks 88 #[] w (.agg #[.string ⟨s.toArray⟩,.slice po k pc,.int .i64 j]) (decide (8 < k)) := by
 intro W g
 show Calls Tryz.prog _ #[.agg #[.string ⟨s.toArray⟩,.slice po k pc,.int .i64 j]] W _
 have hd : decide (8 < k) = decide ((8 : Int) < (k : Int)) := by
  rw [Bool.eq_iff_iff]
  simp only [decide_eq_true_eq]
  omega
 rw [hd]
 clear g hd
 go_enter Tryz.func88,Tryz.ntmps88
 go_wp2_with fail
 go_ret
 exact ⟨rfl,Bel.alloc (Bel.refl _) _⟩
theorem many_any (o : Option Addr) (n c : Nat) (L : List Fw) (hn : n ≤ 4611686018427387904) (w : World) (hA : FArg w o n L) :
  Calls Tryz.prog 43 #[.slice o n c] w fun e w' => e = .returned (.bool (L.any fun f => decide (8 < f.params.length))) ∧ Bel w w' := by
 have H := Lib.hid (func_has #[] ent_many L (fun f => decide (8 < f.params.length)) n c o hn w hA.1 hA.2 (fun i hi v hv => by
  have e : v.k = L[i].params.length := by have := hv.ps.1; rw [List.length_map] at this; exact this.symm
  have := ask_many w v.s v.po v.k v.pc v.j
  rw [e] at this ⊢
  exact this))
 generalize (L.any fun f => decide (8 < f.params.length)) = b at *
 clear hA
 go_enter Tryz.func43,Tryz.ntmps43
 go_wp2_with fail
 refine H.out.mono ?_
 rintro e w2 ⟨rfl,g⟩
 have G := Lib.hid g
 clear g
 go_wp2_with fail
 go_ret
 exact ⟨rfl,G.out⟩

def partB (k : Int) (l : List Int) : Bool :=
 if k = 1 ∨ k = 2 ∨ k = 3 ∨ k = 4 ∨ k = 5 then decide (l = [])
 else if k = 6 ∨ k = 7 ∨ k = 11 ∨ k = 12 then !l.any fun v => v != 1
 else if k = 8 ∨ k = 13 ∨ k = 14 ∨ k = 17 ∨ k = 18 then decide (l = [1])
 else if k = 9 ∨ k = 10 then decide (l = [1,1])
 else if k = 15 then decide (l = [1,3]) || decide (l = [1,3,3])
 else if k = 16 then decide (l = [1,3])
 else if k = 19 then !l.any fun v => v != 2
 else false
theorem new_rarg (w : World) (zs : List Int) (t : TypeId) : RArg (w.alloc (.cells (zs.map (Value.int .i64)).toArray t)) (some ⟨w.heap.size,0,none⟩) zs.length zs :=
 ⟨rfl,fun _ => ⟨_,0,rfl,fun i hi => by
  rw [World.cell?_alloc_new]
  simp [List.getElem?_eq_getElem hi]⟩⟩
theorem part_1 (o : Option Addr) (n c : Nat) (l : List Int) (hn : n ≤ 4611686018427387904) (w : World) (hA : RArg w o n l) :
  Calls Tryz.prog 141 #[.int .i64 1,.slice o n c] w fun e w' => e = .returned (.bool (partB 1 l)) ∧ Bel w w' := by
 have e : partB 1 l = ((n : Int) == 0) := by
  have h1 := hA.1
  have h2 : partB 1 l = decide (l = []) := rfl
  rw [h2,Bool.eq_iff_iff]
  cases l with
  | nil => simp at h1; subst h1; simp
  | cons a r => simp at h1; simp; omega
 rw [e]
 clear e hA
 go_enter Tryz.func141,Tryz.ntmps141
 go_wp2_with fail
 go_ret
 exact ⟨rfl,Bel.refl _⟩
theorem part_2 (o : Option Addr) (n c : Nat) (l : List Int) (hn : n ≤ 4611686018427387904) (w : World) (hA : RArg w o n l) :
  Calls Tryz.prog 141 #[.int .i64 2,.slice o n c] w fun e w' => e = .returned (.bool (partB 2 l)) ∧ Bel w w' := by
 have e : partB 2 l = ((n : Int) == 0) := by
  have h1 := hA.1
  have h2 : partB 2 l = decide (l = []) := rfl
  rw [h2,Bool.eq_iff_iff]
  cases l with
  | nil => simp at h1; subst h1; simp
  | cons a r => simp at h1; simp; omega
 rw [e]
 clear e hA
 go_enter Tryz.func141,Tryz.ntmps141
 go_wp2_with fail
 go_ret
 exact ⟨rfl,Bel.refl _⟩
theorem part_3 (o : Option Addr) (n c : Nat) (l : List Int) (hn : n ≤ 4611686018427387904) (w : World) (hA : RArg w o n l) :
  Calls Tryz.prog 141 #[.int .i64 3,.slice o n c] w fun e w' => e = .returned (.bool (partB 3 l)) ∧ Bel w w' := by
 have e : partB 3 l = ((n : Int) == 0) := by
  have h1 := hA.1
  have h2 : partB 3 l = decide (l = []) := rfl
  rw [h2,Bool.eq_iff_iff]
  cases l with
  | nil => simp at h1; subst h1; simp
  | cons a r => simp at h1; simp; omega
 rw [e]
 clear e hA
 go_enter Tryz.func141,Tryz.ntmps141
 go_wp2_with fail
 go_ret
 exact ⟨rfl,Bel.refl _⟩
theorem part_4 (o : Option Addr) (n c : Nat) (l : List Int) (hn : n ≤ 4611686018427387904) (w : World) (hA : RArg w o n l) :
  Calls Tryz.prog 141 #[.int .i64 4,.slice o n c] w fun e w' => e = .returned (.bool (partB 4 l)) ∧ Bel w w' := by
 have e : partB 4 l = ((n : Int) == 0) := by
  have h1 := hA.1
  have h2 : partB 4 l = decide (l = []) := rfl
  rw [h2,Bool.eq_iff_iff]
  cases l with
  | nil => simp at h1; subst h1; simp
  | cons a r => simp at h1; simp; omega
 rw [e]
 clear e hA
 go_enter Tryz.func141,Tryz.ntmps141
 go_wp2_with fail
 go_ret
 exact ⟨rfl,Bel.refl _⟩
theorem part_5 (o : Option Addr) (n c : Nat) (l : List Int) (hn : n ≤ 4611686018427387904) (w : World) (hA : RArg w o n l) :
  Calls Tryz.prog 141 #[.int .i64 5,.slice o n c] w fun e w' => e = .returned (.bool (partB 5 l)) ∧ Bel w w' := by
 have e : partB 5 l = ((n : Int) == 0) := by
  have h1 := hA.1
  have h2 : partB 5 l = decide (l = []) := rfl
  rw [h2,Bool.eq_iff_iff]
  cases l with
  | nil => simp at h1; subst h1; simp
  | cons a r => simp at h1; simp; omega
 rw [e]
 clear e hA
 go_enter Tryz.func141,Tryz.ntmps141
 go_wp2_with fail
 go_ret
 exact ⟨rfl,Bel.refl _⟩
theorem part_6 (o : Option Addr) (n c : Nat) (l : List Int) (hn : n ≤ 4611686018427387904) (w : World) (hA : RArg w o n l) :
  Calls Tryz.prog 141 #[.int .i64 6,.slice o n c] w fun e w' => e = .returned (.bool (partB 6 l)) ∧ Bel w w' := by
 have e : partB 6 l = !l.any fun v => v != 1 := rfl
 rw [e]
 have H := Lib.hid (areAll_any o n c l 1 hn w hA)
 generalize (!l.any fun v => v != 1) = b at *
 clear e hA
 go_enter Tryz.func141,Tryz.ntmps141
 go_wp2_with fail
 refine H.out.mono ?_
 rintro e w2 ⟨rfl,g⟩
 have G := Lib.hid g
 clear g
 go_wp2_with fail
 go_ret
 exact ⟨rfl,G.out⟩
theorem part_7 (o : Option Addr) (n c : Nat) (l : List Int) (hn : n ≤ 4611686018427387904) (w : World) (hA : RArg w o n l) :
  Calls Tryz.prog 141 #[.int .i64 7,.slice o n c] w fun e w' => e = .returned (.bool (partB 7 l)) ∧ Bel w w' := by
 have e : partB 7 l = !l.any fun v => v != 1 := rfl
 rw [e]
 have H := Lib.hid (areAll_any o n c l 1 hn w hA)
 generalize (!l.any fun v => v != 1) = b at *
 clear e hA
 go_enter Tryz.func141,Tryz.ntmps141
 go_wp2_with fail
 refine H.out.mono ?_
 rintro e w2 ⟨rfl,g⟩
 have G := Lib.hid g
 clear g
 go_wp2_with fail
 go_ret
 exact ⟨rfl,G.out⟩
theorem part_8 (o : Option Addr) (n c : Nat) (l : List Int) (hn : n ≤ 4611686018427387904) (w : World) (hA : RArg w o n l) :
  Calls Tryz.prog 141 #[.int .i64 8,.slice o n c] w fun e w' => e = .returned (.bool (partB 8 l)) ∧ Bel w w' := by
 have e : partB 8 l = decide (l = [1]) := rfl
 rw [e]
 have H := Lib.hid (are_any o _ n 1 c 1 l [1] hn (by decide) _ (hA.on (Bel.alloc (Bel.refl w) _)) (new_rarg w [1] 182))
 have HB := Lib.hid (Bel.alloc (Bel.refl w) (.cells #[.int .i64 1] 182))
 generalize decide (l = [1]) = b at *
 clear e hA
 go_enter Tryz.func141,Tryz.ntmps141
 go_wp2_with fail
 refine H.out.mono ?_
 rintro e w2 ⟨rfl,g⟩
 have G := Lib.hid (Bel.trans HB.out g)
 clear g
 go_wp2_with fail
 go_ret
 exact ⟨rfl,G.out⟩
theorem part_9 (o : Option Addr) (n c : Nat) (l : List Int) (hn : n ≤ 4611686018427387904) (w : World) (hA : RArg w o n l) :
  Calls Tryz.prog 141 #[.int .i64 9,.slice o n c] w fun e w' => e = .returned (.bool (partB 9 l)) ∧ Bel w w' := by
 have e : partB 9 l = decide (l = [1,1]) := rfl
 rw [e]
 have H := Lib.hid (are_any o _ n 2 c 2 l [1,1] hn (by decide) _ (hA.on (Bel.alloc (Bel.refl w) _)) (new_rarg w [1,1] 182))
 have HB := Lib.hid (Bel.alloc (Bel.refl w) (.cells #[.int .i64 1,.int .i64 1] 182))
 generalize decide (l = [1,1]) = b at *
 clear e hA
 go_enter Tryz.func141,Tryz.ntmps141
 go_wp2_with fail
 refine H.out.mono ?_
 rintro e w2 ⟨rfl,g⟩
 have G := Lib.hid (Bel.trans HB.out g)
 clear g
 go_wp2_with fail
 go_ret
 exact ⟨rfl,G.out⟩
theorem part_10 (o : Option Addr) (n c : Nat) (l : List Int) (hn : n ≤ 4611686018427387904) (w : World) (hA : RArg w o n l) :
  Calls Tryz.prog 141 #[.int .i64 10,.slice o n c] w fun e w' => e = .returned (.bool (partB 10 l)) ∧ Bel w w' := by
 have e : partB 10 l = decide (l = [1,1]) := rfl
 rw [e]
 have H := Lib.hid (are_any o _ n 2 c 2 l [1,1] hn (by decide) _ (hA.on (Bel.alloc (Bel.refl w) _)) (new_rarg w [1,1] 182))
 have HB := Lib.hid (Bel.alloc (Bel.refl w) (.cells #[.int .i64 1,.int .i64 1] 182))
 generalize decide (l = [1,1]) = b at *
 clear e hA
 go_enter Tryz.func141,Tryz.ntmps141
 go_wp2_with fail
 refine H.out.mono ?_
 rintro e w2 ⟨rfl,g⟩
 have G := Lib.hid (Bel.trans HB.out g)
 clear g
 go_wp2_with fail
 go_ret
 exact ⟨rfl,G.out⟩
theorem part_11 (o : Option Addr) (n c : Nat) (l : List Int) (hn : n ≤ 4611686018427387904) (w : World) (hA : RArg w o n l) :
  Calls Tryz.prog 141 #[.int .i64 11,.slice o n c] w fun e w' => e = .returned (.bool (partB 11 l)) ∧ Bel w w' := by
 have e : partB 11 l = !l.any fun v => v != 1 := rfl
 rw [e]
 have H := Lib.hid (areAll_any o n c l 1 hn w hA)
 generalize (!l.any fun v => v != 1) = b at *
 clear e hA
 go_enter Tryz.func141,Tryz.ntmps141
 go_wp2_with fail
 refine H.out.mono ?_
 rintro e w2 ⟨rfl,g⟩
 have G := Lib.hid g
 clear g
 go_wp2_with fail
 go_ret
 exact ⟨rfl,G.out⟩
theorem part_12 (o : Option Addr) (n c : Nat) (l : List Int) (hn : n ≤ 4611686018427387904) (w : World) (hA : RArg w o n l) :
  Calls Tryz.prog 141 #[.int .i64 12,.slice o n c] w fun e w' => e = .returned (.bool (partB 12 l)) ∧ Bel w w' := by
 have e : partB 12 l = !l.any fun v => v != 1 := rfl
 rw [e]
 have H := Lib.hid (areAll_any o n c l 1 hn w hA)
 generalize (!l.any fun v => v != 1) = b at *
 clear e hA
 go_enter Tryz.func141,Tryz.ntmps141
 go_wp2_with fail
 refine H.out.mono ?_
 rintro e w2 ⟨rfl,g⟩
 have G := Lib.hid g
 clear g
 go_wp2_with fail
 go_ret
 exact ⟨rfl,G.out⟩
theorem part_13 (o : Option Addr) (n c : Nat) (l : List Int) (hn : n ≤ 4611686018427387904) (w : World) (hA : RArg w o n l) :
  Calls Tryz.prog 141 #[.int .i64 13,.slice o n c] w fun e w' => e = .returned (.bool (partB 13 l)) ∧ Bel w w' := by
 have e : partB 13 l = decide (l = [1]) := rfl
 rw [e]
 have H := Lib.hid (are_any o _ n 1 c 1 l [1] hn (by decide) _ (hA.on (Bel.alloc (Bel.refl w) _)) (new_rarg w [1] 182))
 have HB := Lib.hid (Bel.alloc (Bel.refl w) (.cells #[.int .i64 1] 182))
 generalize decide (l = [1]) = b at *
 clear e hA
 go_enter Tryz.func141,Tryz.ntmps141
 go_wp2_with fail
 refine H.out.mono ?_
 rintro e w2 ⟨rfl,g⟩
 have G := Lib.hid (Bel.trans HB.out g)
 clear g
 go_wp2_with fail
 go_ret
 exact ⟨rfl,G.out⟩
theorem part_14 (o : Option Addr) (n c : Nat) (l : List Int) (hn : n ≤ 4611686018427387904) (w : World) (hA : RArg w o n l) :
  Calls Tryz.prog 141 #[.int .i64 14,.slice o n c] w fun e w' => e = .returned (.bool (partB 14 l)) ∧ Bel w w' := by
 have e : partB 14 l = decide (l = [1]) := rfl
 rw [e]
 have H := Lib.hid (are_any o _ n 1 c 1 l [1] hn (by decide) _ (hA.on (Bel.alloc (Bel.refl w) _)) (new_rarg w [1] 182))
 have HB := Lib.hid (Bel.alloc (Bel.refl w) (.cells #[.int .i64 1] 182))
 generalize decide (l = [1]) = b at *
 clear e hA
 go_enter Tryz.func141,Tryz.ntmps141
 go_wp2_with fail
 refine H.out.mono ?_
 rintro e w2 ⟨rfl,g⟩
 have G := Lib.hid (Bel.trans HB.out g)
 clear g
 go_wp2_with fail
 go_ret
 exact ⟨rfl,G.out⟩
theorem part_15 (o : Option Addr) (n c : Nat) (l : List Int) (hn : n ≤ 4611686018427387904) (w : World) (hA : RArg w o n l) :
  Calls Tryz.prog 141 #[.int .i64 15,.slice o n c] w fun e w' => e = .returned (.bool (partB 15 l)) ∧ Bel w w' := by
 have e : partB 15 l = (decide (l = [1,3]) || decide (l = [1,3,3])) := rfl
 rw [e]
 have H := Lib.hid (are_any o _ n 2 c 2 l [1,3] hn (by decide) _ (hA.on (Bel.alloc (Bel.refl w) _)) (new_rarg w [1,3] 182))
 have H2 := Lib.hid (fun W (g : Bel w W) => are_any o _ n 3 c 3 l [1,3,3] hn (by decide) _ ((hA.on g).on (Bel.alloc (Bel.refl W) _)) (new_rarg W [1,3,3] 182))
 have HB := Lib.hid (Bel.alloc (Bel.refl w) (.cells #[.int .i64 1,.int .i64 3] 182))
 generalize decide (l = [1,3]) = b at *
 generalize decide (l = [1,3,3]) = d at *
 clear e hA
 cases b with
 | true =>
  go_enter Tryz.func141,Tryz.ntmps141
  go_wp2_with fail
  refine H.out.mono ?_
  rintro e w2 ⟨rfl,g⟩
  have G := Lib.hid (Bel.trans HB.out g)
  clear g
  go_wp2_with fail
  go_ret
  exact ⟨rfl,G.out⟩
 | false =>
  go_enter Tryz.func141,Tryz.ntmps141
  go_wp2_with fail
  refine H.out.mono ?_
  rintro e w2 ⟨rfl,g⟩
  have G := Lib.hid (Bel.trans HB.out g)
  clear g
  go_wp2_with fail
  refine (H2.out w2 G.out).mono ?_
  rintro e w3 ⟨rfl,g⟩
  have G3 := Lib.hid (Bel.trans (Bel.alloc G.out _) g)
  clear g
  go_wp2_with fail
  go_ret
  exact ⟨rfl,G3.out⟩
theorem part_16 (o : Option Addr) (n c : Nat) (l : List Int) (hn : n ≤ 4611686018427387904) (w : World) (hA : RArg w o n l) :
  Calls Tryz.prog 141 #[.int .i64 16,.slice o n c] w fun e w' => e = .returned (.bool (partB 16 l)) ∧ Bel w w' := by
 have e : partB 16 l = decide (l = [1,3]) := rfl
 rw [e]
 have H := Lib.hid (are_any o _ n 2 c 2 l [1,3] hn (by decide) _ (hA.on (Bel.alloc (Bel.refl w) _)) (new_rarg w [1,3] 182))
 have HB := Lib.hid (Bel.alloc (Bel.refl w) (.cells #[.int .i64 1,.int .i64 3] 182))
 generalize decide (l = [1,3]) = b at *
 clear e hA
 go_enter Tryz.func141,Tryz.ntmps141
 go_wp2_with fail
 refine H.out.mono ?_
 rintro e w2 ⟨rfl,g⟩
 have G := Lib.hid (Bel.trans HB.out g)
 clear g
 go_wp2_with fail
 go_ret
 exact ⟨rfl,G.out⟩
theorem part_17 (o : Option Addr) (n c : Nat) (l : List Int) (hn : n ≤ 4611686018427387904) (w : World) (hA : RArg w o n l) :
  Calls Tryz.prog 141 #[.int .i64 17,.slice o n c] w fun e w' => e = .returned (.bool (partB 17 l)) ∧ Bel w w' := by
 have e : partB 17 l = decide (l = [1]) := rfl
 rw [e]
 have H := Lib.hid (are_any o _ n 1 c 1 l [1] hn (by decide) _ (hA.on (Bel.alloc (Bel.refl w) _)) (new_rarg w [1] 182))
 have HB := Lib.hid (Bel.alloc (Bel.refl w) (.cells #[.int .i64 1] 182))
 generalize decide (l = [1]) = b at *
 clear e hA
 go_enter Tryz.func141,Tryz.ntmps141
 go_wp2_with fail
 refine H.out.mono ?_
 rintro e w2 ⟨rfl,g⟩
 have G := Lib.hid (Bel.trans HB.out g)
 clear g
 go_wp2_with fail
 go_ret
 exact ⟨rfl,G.out⟩
theorem part_18 (o : Option Addr) (n c : Nat) (l : List Int) (hn : n ≤ 4611686018427387904) (w : World) (hA : RArg w o n l) :
  Calls Tryz.prog 141 #[.int .i64 18,.slice o n c] w fun e w' => e = .returned (.bool (partB 18 l)) ∧ Bel w w' := by
 have e : partB 18 l = decide (l = [1]) := rfl
 rw [e]
 have H := Lib.hid (are_any o _ n 1 c 1 l [1] hn (by decide) _ (hA.on (Bel.alloc (Bel.refl w) _)) (new_rarg w [1] 182))
 have HB := Lib.hid (Bel.alloc (Bel.refl w) (.cells #[.int .i64 1] 182))
 generalize decide (l = [1]) = b at *
 clear e hA
 go_enter Tryz.func141,Tryz.ntmps141
 go_wp2_with fail
 refine H.out.mono ?_
 rintro e w2 ⟨rfl,g⟩
 have G := Lib.hid (Bel.trans HB.out g)
 clear g
 go_wp2_with fail
 go_ret
 exact ⟨rfl,G.out⟩
theorem part_19 (o : Option Addr) (n c : Nat) (l : List Int) (hn : n ≤ 4611686018427387904) (w : World) (hA : RArg w o n l) :
  Calls Tryz.prog 141 #[.int .i64 19,.slice o n c] w fun e w' => e = .returned (.bool (partB 19 l)) ∧ Bel w w' := by
 have e : partB 19 l = !l.any fun v => v != 2 := rfl
 rw [e]
 have H := Lib.hid (areAll_any o n c l 2 hn w hA)
 generalize (!l.any fun v => v != 2) = b at *
 clear e hA
 go_enter Tryz.func141,Tryz.ntmps141
 go_wp2_with fail
 refine H.out.mono ?_
 rintro e w2 ⟨rfl,g⟩
 have G := Lib.hid g
 clear g
 go_wp2_with fail
 go_ret
 exact ⟨rfl,G.out⟩
theorem part_any (k : Int) (o : Option Addr) (n c : Nat) (l : List Int) (hn : n ≤ 4611686018427387904) (w : World) (hA : RArg w o n l) :
  Calls Tryz.prog 141 #[.int .i64 k,.slice o n c] w fun e w' => e = .returned (.bool (partB k l)) ∧ Bel w w' := by
 by_cases h1 : k = 1
 ·subst h1; exact part_1 o n c l hn w hA
 by_cases h2 : k = 2
 ·subst h2; exact part_2 o n c l hn w hA
 by_cases h3 : k = 3
 ·subst h3; exact part_3 o n c l hn w hA
 by_cases h4 : k = 4
 ·subst h4; exact part_4 o n c l hn w hA
 by_cases h5 : k = 5
 ·subst h5; exact part_5 o n c l hn w hA
 by_cases h6 : k = 6
 ·subst h6; exact part_6 o n c l hn w hA
 by_cases h7 : k = 7
 ·subst h7; exact part_7 o n c l hn w hA
 by_cases h8 : k = 8
 ·subst h8; exact part_8 o n c l hn w hA
 by_cases h9 : k = 9
 ·subst h9; exact part_9 o n c l hn w hA
 by_cases h10 : k = 10
 ·subst h10; exact part_10 o n c l hn w hA
 by_cases h11 : k = 11
 ·subst h11; exact part_11 o n c l hn w hA
 by_cases h12 : k = 12
 ·subst h12; exact part_12 o n c l hn w hA
 by_cases h13 : k = 13
 ·subst h13; exact part_13 o n c l hn w hA
 by_cases h14 : k = 14
 ·subst h14; exact part_14 o n c l hn w hA
 by_cases h15 : k = 15
 ·subst h15; exact part_15 o n c l hn w hA
 by_cases h16 : k = 16
 ·subst h16; exact part_16 o n c l hn w hA
 by_cases h17 : k = 17
 ·subst h17; exact part_17 o n c l hn w hA
 by_cases h18 : k = 18
 ·subst h18; exact part_18 o n c l hn w hA
 by_cases h19 : k = 19
 ·subst h19; exact part_19 o n c l hn w hA
 have e : partB k l = false := by
  unfold partB
  rw [if_neg (by omega),if_neg (by omega),if_neg (by omega),if_neg (by omega),if_neg (by omega),if_neg (by omega),if_neg (by omega)]
 rw [e]
 clear e hA
 have b1 : (k == 1) = false := by simpa using h1
 have b2 : (k == 2) = false := by simpa using h2
 have b3 : (k == 3) = false := by simpa using h3
 have b4 : (k == 4) = false := by simpa using h4
 have b5 : (k == 5) = false := by simpa using h5
 have b6 : (k == 6) = false := by simpa using h6
 have b7 : (k == 7) = false := by simpa using h7
 have b8 : (k == 8) = false := by simpa using h8
 have b9 : (k == 9) = false := by simpa using h9
 have b10 : (k == 10) = false := by simpa using h10
 have b11 : (k == 11) = false := by simpa using h11
 have b12 : (k == 12) = false := by simpa using h12
 have b13 : (k == 13) = false := by simpa using h13
 have b14 : (k == 14) = false := by simpa using h14
 have b15 : (k == 15) = false := by simpa using h15
 have b16 : (k == 16) = false := by simpa using h16
 have b17 : (k == 17) = false := by simpa using h17
 have b18 : (k == 18) = false := by simpa using h18
 have b19 : (k == 19) = false := by simpa using h19
 go_enter Tryz.func141,Tryz.ntmps141
 go_wp2_with fail
 go_ret
 exact ⟨rfl,Bel.refl _⟩

theorem binL_any (s : Txt) (w : World) : Calls Tryz.prog 190 #[.string ⟨s.toArray⟩] w fun e w' => e = .returned (.int .i64 (binL s : Int)) ∧ w' = w := by
 by_cases h0 : s = [111,114]
 ·subst h0
  rw [show binL [111,114] = 1 from rfl]
  go_enter Tryz.func190,Tryz.ntmps190
  go_wp2
  go_ret
  exact ⟨rfl,rfl⟩
 by_cases h1 : s = [97,110,100]
 ·subst h1
  rw [show binL [97,110,100] = 2 from rfl]
  go_enter Tryz.func190,Tryz.ntmps190
  go_wp2
  go_ret
  exact ⟨rfl,rfl⟩
 by_cases h2 : s = [61,61]
 ·subst h2
  rw [show binL [61,61] = 4 from rfl]
  go_enter Tryz.func190,Tryz.ntmps190
  go_wp2
  go_ret
  exact ⟨rfl,rfl⟩
 by_cases h3 : s = [33,61]
 ·subst h3
  rw [show binL [33,61] = 4 from rfl]
  go_enter Tryz.func190,Tryz.ntmps190
  go_wp2
  go_ret
  exact ⟨rfl,rfl⟩
 by_cases h4 : s = [60]
 ·subst h4
  rw [show binL [60] = 4 from rfl]
  go_enter Tryz.func190,Tryz.ntmps190
  go_wp2
  go_ret
  exact ⟨rfl,rfl⟩
 by_cases h5 : s = [60,61]
 ·subst h5
  rw [show binL [60,61] = 4 from rfl]
  go_enter Tryz.func190,Tryz.ntmps190
  go_wp2
  go_ret
  exact ⟨rfl,rfl⟩
 by_cases h6 : s = [62]
 ·subst h6
  rw [show binL [62] = 4 from rfl]
  go_enter Tryz.func190,Tryz.ntmps190
  go_wp2
  go_ret
  exact ⟨rfl,rfl⟩
 by_cases h7 : s = [62,61]
 ·subst h7
  rw [show binL [62,61] = 4 from rfl]
  go_enter Tryz.func190,Tryz.ntmps190
  go_wp2
  go_ret
  exact ⟨rfl,rfl⟩
 by_cases h8 : s = [43]
 ·subst h8
  rw [show binL [43] = 5 from rfl]
  go_enter Tryz.func190,Tryz.ntmps190
  go_wp2
  go_ret
  exact ⟨rfl,rfl⟩
 by_cases h9 : s = [45]
 ·subst h9
  rw [show binL [45] = 5 from rfl]
  go_enter Tryz.func190,Tryz.ntmps190
  go_wp2
  go_ret
  exact ⟨rfl,rfl⟩
 by_cases h10 : s = [42]
 ·subst h10
  rw [show binL [42] = 6 from rfl]
  go_enter Tryz.func190,Tryz.ntmps190
  go_wp2
  go_ret
  exact ⟨rfl,rfl⟩
 by_cases h11 : s = [47]
 ·subst h11
  rw [show binL [47] = 6 from rfl]
  go_enter Tryz.func190,Tryz.ntmps190
  go_wp2
  go_ret
  exact ⟨rfl,rfl⟩
 by_cases h12 : s = [37]
 ·subst h12
  rw [show binL [37] = 6 from rfl]
  go_enter Tryz.func190,Tryz.ntmps190
  go_wp2
  go_ret
  exact ⟨rfl,rfl⟩
 have e : binL s = 0 := by
  unfold binL opsL
  simp [h0,h1,h2,h3,h4,h5,h6,h7,h8,h9,h10,h11,h12]
 rw [e]
 clear e
 have b0 : (s == [111,114]) = false := by simpa using h0
 have b1 : (s == [97,110,100]) = false := by simpa using h1
 have b2 : (s == [61,61]) = false := by simpa using h2
 have b3 : (s == [33,61]) = false := by simpa using h3
 have b4 : (s == [60]) = false := by simpa using h4
 have b5 : (s == [60,61]) = false := by simpa using h5
 have b6 : (s == [62]) = false := by simpa using h6
 have b7 : (s == [62,61]) = false := by simpa using h7
 have b8 : (s == [43]) = false := by simpa using h8
 have b9 : (s == [45]) = false := by simpa using h9
 have b10 : (s == [42]) = false := by simpa using h10
 have b11 : (s == [47]) = false := by simpa using h11
 have b12 : (s == [37]) = false := by simpa using h12
 go_enter Tryz.func190,Tryz.ntmps190
 go_wp2
 go_ret
 exact ⟨rfl,rfl⟩
def textB (k : Int) (s : Txt) : Bool :=
 if k = 4 then strB s else if k = 5 ∨ k = 11 ∨ k = 13 ∨ k = 14 then nameB s else if k = 12 then hostB s
 else if k = 8 then s == [45] || s == [110,111,116] else if k = 9 then binL s != 0 else s.isEmpty
def intF (k i : Int) : Bool := if k = 2 then i == 0 || i == 1 else if k = 3 then intB i else i == 0
theorem text_4 (s : Txt) (i : Int) (ko jo : Option Addr) (kn kc jn jc : Nat) (w : World) (hm : Lex.ML w) :
  Calls Tryz.prog 138 #[.agg #[.int .i64 4,.string ⟨s.toArray⟩,.int .i64 i,.slice ko kn kc,.slice jo jn jc]] w fun e w' => e = .returned (.bool (textB 4 s)) ∧ Bel w w' := by
 rw [show textB 4 s = strB s from rfl]
 have H := Lib.hid (fun W (g : Bel w W) => isStr_any s W (hm.on g))
 have HB := Lib.hid (Bel.alloc (Bel.refl w) (.cells #[.int .i64 4,.string ⟨s.toArray⟩,.int .i64 i,.slice ko kn kc,.slice jo jn jc] 65))
 generalize strB s = b at *
 go_enter Tryz.func138,Tryz.ntmps138
 go_wp2_with fail
 refine (H.out _ HB.out).mono ?_
 rintro e w2 ⟨rfl,g⟩
 have G := Lib.hid (Bel.trans HB.out g)
 clear g
 go_wp2_with fail
 go_ret
 exact ⟨rfl,G.out⟩
theorem text_5 (s : Txt) (i : Int) (ko jo : Option Addr) (kn kc jn jc : Nat) (w : World) (hm : Lex.ML w) :
  Calls Tryz.prog 138 #[.agg #[.int .i64 5,.string ⟨s.toArray⟩,.int .i64 i,.slice ko kn kc,.slice jo jn jc]] w fun e w' => e = .returned (.bool (textB 5 s)) ∧ Bel w w' := by
 rw [show textB 5 s = nameB s from rfl]
 have H := Lib.hid (fun W (g : Bel w W) => isName_any s W (hm.on g))
 have HB := Lib.hid (Bel.alloc (Bel.refl w) (.cells #[.int .i64 5,.string ⟨s.toArray⟩,.int .i64 i,.slice ko kn kc,.slice jo jn jc] 65))
 generalize nameB s = b at *
 go_enter Tryz.func138,Tryz.ntmps138
 go_wp2_with fail
 refine (H.out _ HB.out).mono ?_
 rintro e w2 ⟨rfl,g⟩
 have G := Lib.hid (Bel.trans HB.out g)
 clear g
 go_wp2_with fail
 go_ret
 exact ⟨rfl,G.out⟩
theorem text_11 (s : Txt) (i : Int) (ko jo : Option Addr) (kn kc jn jc : Nat) (w : World) (hm : Lex.ML w) :
  Calls Tryz.prog 138 #[.agg #[.int .i64 11,.string ⟨s.toArray⟩,.int .i64 i,.slice ko kn kc,.slice jo jn jc]] w fun e w' => e = .returned (.bool (textB 11 s)) ∧ Bel w w' := by
 rw [show textB 11 s = nameB s from rfl]
 have H := Lib.hid (fun W (g : Bel w W) => isName_any s W (hm.on g))
 have HB := Lib.hid (Bel.alloc (Bel.refl w) (.cells #[.int .i64 11,.string ⟨s.toArray⟩,.int .i64 i,.slice ko kn kc,.slice jo jn jc] 65))
 generalize nameB s = b at *
 go_enter Tryz.func138,Tryz.ntmps138
 go_wp2_with fail
 refine (H.out _ HB.out).mono ?_
 rintro e w2 ⟨rfl,g⟩
 have G := Lib.hid (Bel.trans HB.out g)
 clear g
 go_wp2_with fail
 go_ret
 exact ⟨rfl,G.out⟩
theorem text_13 (s : Txt) (i : Int) (ko jo : Option Addr) (kn kc jn jc : Nat) (w : World) (hm : Lex.ML w) :
  Calls Tryz.prog 138 #[.agg #[.int .i64 13,.string ⟨s.toArray⟩,.int .i64 i,.slice ko kn kc,.slice jo jn jc]] w fun e w' => e = .returned (.bool (textB 13 s)) ∧ Bel w w' := by
 rw [show textB 13 s = nameB s from rfl]
 have H := Lib.hid (fun W (g : Bel w W) => isName_any s W (hm.on g))
 have HB := Lib.hid (Bel.alloc (Bel.refl w) (.cells #[.int .i64 13,.string ⟨s.toArray⟩,.int .i64 i,.slice ko kn kc,.slice jo jn jc] 65))
 generalize nameB s = b at *
 go_enter Tryz.func138,Tryz.ntmps138
 go_wp2_with fail
 refine (H.out _ HB.out).mono ?_
 rintro e w2 ⟨rfl,g⟩
 have G := Lib.hid (Bel.trans HB.out g)
 clear g
 go_wp2_with fail
 go_ret
 exact ⟨rfl,G.out⟩
theorem text_14 (s : Txt) (i : Int) (ko jo : Option Addr) (kn kc jn jc : Nat) (w : World) (hm : Lex.ML w) :
  Calls Tryz.prog 138 #[.agg #[.int .i64 14,.string ⟨s.toArray⟩,.int .i64 i,.slice ko kn kc,.slice jo jn jc]] w fun e w' => e = .returned (.bool (textB 14 s)) ∧ Bel w w' := by
 rw [show textB 14 s = nameB s from rfl]
 have H := Lib.hid (fun W (g : Bel w W) => isName_any s W (hm.on g))
 have HB := Lib.hid (Bel.alloc (Bel.refl w) (.cells #[.int .i64 14,.string ⟨s.toArray⟩,.int .i64 i,.slice ko kn kc,.slice jo jn jc] 65))
 generalize nameB s = b at *
 go_enter Tryz.func138,Tryz.ntmps138
 go_wp2_with fail
 refine (H.out _ HB.out).mono ?_
 rintro e w2 ⟨rfl,g⟩
 have G := Lib.hid (Bel.trans HB.out g)
 clear g
 go_wp2_with fail
 go_ret
 exact ⟨rfl,G.out⟩
theorem text_12 (s : Txt) (i : Int) (ko jo : Option Addr) (kn kc jn jc : Nat) (w : World) (hm : Lex.ML w) :
  Calls Tryz.prog 138 #[.agg #[.int .i64 12,.string ⟨s.toArray⟩,.int .i64 i,.slice ko kn kc,.slice jo jn jc]] w fun e w' => e = .returned (.bool (textB 12 s)) ∧ Bel w w' := by
 rw [show textB 12 s = hostB s from rfl]
 have H := Lib.hid (fun W (g : Bel w W) => isTok_any 6 0 s (by decide) W (hm.on g))
 have HB := Lib.hid (Bel.alloc (Bel.refl w) (.cells #[.int .i64 12,.string ⟨s.toArray⟩,.int .i64 i,.slice ko kn kc,.slice jo jn jc] 65))
 unfold hostB
 generalize Lex.okT (tkn 6 s 0) = b at *
 go_enter Tryz.func138,Tryz.ntmps138
 go_wp2_with fail
 refine (H.out _ HB.out).mono ?_
 rintro e w2 ⟨rfl,g⟩
 have G := Lib.hid (Bel.trans HB.out g)
 clear g
 go_wp2_with fail
 go_ret
 exact ⟨rfl,G.out⟩
theorem text_9 (s : Txt) (i : Int) (ko jo : Option Addr) (kn kc jn jc : Nat) (w : World) :
  Calls Tryz.prog 138 #[.agg #[.int .i64 9,.string ⟨s.toArray⟩,.int .i64 i,.slice ko kn kc,.slice jo jn jc]] w fun e w' => e = .returned (.bool (textB 9 s)) ∧ Bel w w' := by
 have e : textB 9 s = ((binL s : Int) != 0) := by
  rw [show textB 9 s = (binL s != 0) from rfl,Bool.eq_iff_iff]
  simp
 rw [e]
 have H := Lib.hid (fun W => binL_any s W)
 generalize (binL s : Int) = b at *
 clear e
 go_enter Tryz.func138,Tryz.ntmps138
 go_wp2_with fail
 refine (H.out _).mono ?_
 rintro e w2 ⟨rfl,rfl⟩
 go_wp2_with fail
 go_ret
 exact ⟨rfl,Bel.alloc (Bel.refl _) _⟩
theorem text_8 (s : Txt) (i : Int) (ko jo : Option Addr) (kn kc jn jc : Nat) (w : World) :
  Calls Tryz.prog 138 #[.agg #[.int .i64 8,.string ⟨s.toArray⟩,.int .i64 i,.slice ko kn kc,.slice jo jn jc]] w fun e w' => e = .returned (.bool (textB 8 s)) ∧ Bel w w' := by
 rw [show textB 8 s = (s == [45] || s == [110,111,116]) from rfl]
 cases h1 : (s == [45]) with
 | true =>
  go_enter Tryz.func138,Tryz.ntmps138
  go_wp2
  go_ret
  exact ⟨rfl,Bel.alloc (Bel.refl _) _⟩
 | false =>
  go_enter Tryz.func138,Tryz.ntmps138
  go_wp2
  go_ret
  exact ⟨by simp,Bel.alloc (Bel.refl _) _⟩
theorem text_fits (k : Int) (s : Txt) (i : Int) (ko jo : Option Addr) (kn kc jn jc : Nat) (w : World) (hm : Lex.ML w) :
  Calls Tryz.prog 138 #[.agg #[.int .i64 k,.string ⟨s.toArray⟩,.int .i64 i,.slice ko kn kc,.slice jo jn jc]] w fun e w' => e = .returned (.bool (textB k s)) ∧ Bel w w' := by
 by_cases h4 : k = 4
 ·subst h4; exact text_4 s i ko jo kn kc jn jc w hm
 by_cases h5 : k = 5
 ·subst h5; exact text_5 s i ko jo kn kc jn jc w hm
 by_cases h11 : k = 11
 ·subst h11; exact text_11 s i ko jo kn kc jn jc w hm
 by_cases h13 : k = 13
 ·subst h13; exact text_13 s i ko jo kn kc jn jc w hm
 by_cases h14 : k = 14
 ·subst h14; exact text_14 s i ko jo kn kc jn jc w hm
 by_cases h12 : k = 12
 ·subst h12; exact text_12 s i ko jo kn kc jn jc w hm
 by_cases h8 : k = 8
 ·subst h8; exact text_8 s i ko jo kn kc jn jc w
 by_cases h9 : k = 9
 ·subst h9; exact text_9 s i ko jo kn kc jn jc w
 have e : textB k s = s.isEmpty := by
  unfold textB
  rw [if_neg h4,if_neg (by omega),if_neg h12,if_neg h8,if_neg h9]
 rw [e]
 have b4 : (k == 4) = false := by simpa using h4
 have b5 : (k == 5) = false := by simpa using h5
 have b11 : (k == 11) = false := by simpa using h11
 have b13 : (k == 13) = false := by simpa using h13
 have b14 : (k == 14) = false := by simpa using h14
 have b12 : (k == 12) = false := by simpa using h12
 have b8 : (k == 8) = false := by simpa using h8
 have b9 : (k == 9) = false := by simpa using h9
 go_enter Tryz.func138,Tryz.ntmps138
 go_wp2
 go_ret
 exact ⟨rfl,Bel.alloc (Bel.refl _) _⟩
theorem int_fits (k : Int) (s : Txt) (i : Int) (hi : -9223372036854775808 ≤ i ∧ i ≤ 9223372036854775807) (ko jo : Option Addr) (kn kc jn jc : Nat) (w : World) (hm : Lex.ML w) :
  Calls Tryz.prog 139 #[.agg #[.int .i64 k,.string ⟨s.toArray⟩,.int .i64 i,.slice ko kn kc,.slice jo jn jc]] w fun e w' => e = .returned (.bool (intF k i)) ∧ Bel w w' := by
 by_cases h2 : k = 2
 ·subst h2
  rw [show intF 2 i = (i == 0 || i == 1) from rfl]
  cases h1 : (i == 0) with
  | true =>
   go_enter Tryz.func139,Tryz.ntmps139
   go_wp2
   go_ret
   exact ⟨rfl,Bel.alloc (Bel.refl _) _⟩
  | false =>
   go_enter Tryz.func139,Tryz.ntmps139
   go_wp2
   go_ret
   exact ⟨by simp,Bel.alloc (Bel.refl _) _⟩
 by_cases h3 : k = 3
 ·subst h3
  rw [show intF 3 i = intB i from rfl]
  unfold intB
  have H := Lib.hid (fun W (g : Bel w W) => isTok_any 3 i [] hi W (hm.on g))
  have HB := Lib.hid (Bel.alloc (Bel.refl w) (.cells #[.int .i64 3,.string ⟨s.toArray⟩,.int .i64 i,.slice ko kn kc,.slice jo jn jc] 65))
  generalize Lex.okT (tkn 3 [] i) = b at *
  go_enter Tryz.func139,Tryz.ntmps139
  go_wp2_with fail
  refine (H.out _ HB.out).mono ?_
  rintro e w2 ⟨rfl,g⟩
  have G := Lib.hid (Bel.trans HB.out g)
  clear g
  go_wp2_with fail
  go_ret
  exact ⟨rfl,G.out⟩
 have e : intF k i = (i == 0) := by
  unfold intF
  rw [if_neg h2,if_neg h3]
 rw [e]
 have b2 : (k == 2) = false := by simpa using h2
 have b3 : (k == 3) = false := by simpa using h3
 go_enter Tryz.func139,Tryz.ntmps139
 go_wp2
 go_ret
 exact ⟨rfl,Bel.alloc (Bel.refl _) _⟩
end Syn
end Go.Proofs.YtcapkeaedpabjaaGreatDoor
