/-
  Layer 8, texts merged: LexA, LexB, LexC, LexD, LexE. For every argument within the bounds that each theorem names.
-/
import Derived.Test.YtcapkeaedpabjaaGreatDoorYA2
set_option maxRecDepth 100000
set_option maxHeartbeats 16000000

/-
 Layer 7, plainly: what a text's tokens are; what text a token has.
-/
namespace Go.Proofs.YtcapkeaedpabjaaGreatDoor
namespace Lex

abbrev Txt := List UInt8
def headB (c : UInt8) : Bool := (97 ≤ c && c ≤ 122) || c == 95
def digB (c : UInt8) : Bool := 48 ≤ c && c ≤ 57
def tailB (c : UInt8) : Bool := headB c || digB c
def blankB (c : UInt8) : Bool := c == 32 || c == 9 || c == 10
def spanN (p : UInt8 → Bool) : Txt → Nat
 | [] => 0
 | c :: r => if p c then spanN p r + 1 else 0
def runN : Txt → Nat
 | [] => 0
 | c :: r => if headB c then spanN tailB r + 1 else 0
def skipN : Bool → Txt → Nat
 | _,[] => 0
 | true,c :: r => skipN (c != 10) r + 1
 | false,c :: r => if blankB c then skipN false r + 1 else if c == 47 && r.head? == some 47 then skipN true r + 1 else 0
def words : List Txt := [[102,117,110,99],[108,101,116],[105,102],[101,108,115,101],[119,104,105,108,101],[114,101,116,117,114,110],[97,110,100],[111,114],[110,111,116],[110,117,108,108],[116,114,117,101],[102,97,108,115,101]]
def wordB (s : Txt) : Bool := words.contains s
def signs : List UInt8 := [40,41,123,125,91,93,44,59,58,61,60,62,43,45,42,47,37]
def twos : List Txt := [[61,61],[33,61],[60,61],[62,61]]
def symB : Txt → Bool
 | [c] => signs.contains c
 | [c,d] => twos.contains [c,d]
 | _ => false
structure Rd where
 k : Int
 s : Txt
 i : Int
 n : Nat
 e : Int
def bad (n : Nat) (e : Int) : Rd := ⟨0,[],0,n,e⟩
def addC (t : Txt) (R : Rd) : Rd := if R.e = 0 then ⟨R.k,t ++ R.s,R.i,R.n,0⟩ else R
def strT (m p : Nat) : Txt → Rd
 | [] => bad 0 1
 | c :: r =>
  if c == 34 then ⟨4,[],0,p + 1,0⟩
  else if c < 32 || 126 < c then bad p 1
  else if c == 92 then
   match r with
   | [] => bad p 1
   | d :: q => if d == 34 || d == 92 then (if m = 200 then bad 0 3 else addC [d] (strT (m + 1) (p + 2) q)) else bad p 1
  else if m = 200 then bad 0 3 else addC [c] (strT (m + 1) (p + 1) r)
theorem strT_cons (m p : Nat) (c : UInt8) (r : Txt) : strT m p (c :: r) = if c == 34 then ⟨4,[],0,p + 1,0⟩ else if c < 32 || 126 < c then bad p 1 else if c == 92 then
   match r with
   | [] => bad p 1
   | d :: q => if d == 34 || d == 92 then (if m = 200 then bad 0 3 else addC [d] (strT (m + 1) (p + 2) q)) else bad p 1
  else if m = 200 then bad 0 3 else addC [c] (strT (m + 1) (p + 1) r) := by
 conv => lhs; rw [strT.eq_def]
 cases r <;> rfl
def symN : Txt → Nat
 | [] => 0
 | [c] => if symB [c] then 1 else 0
 | c :: d :: _ => if symB [c,d] then 2 else if symB [c] then 1 else 0
def rdT : Txt → Rd
 | [] => bad 0 1
 | c :: r =>
  if headB c then (if 24 < runN (c :: r) then bad 0 3 else ⟨if wordB ((c :: r).take (runN (c :: r))) then 2 else 1,(c :: r).take (runN (c :: r)),0,runN (c :: r),0⟩)
  else if digB c then (if Num.parE ((c :: r).take (spanN digB (c :: r))) = 0 then ⟨3,[],Num.parV ((c :: r).take (spanN digB (c :: r))),spanN digB (c :: r),0⟩ else bad 0 (Num.parE ((c :: r).take (spanN digB (c :: r)))))
  else if c == 34 then strT 0 1 r
  else if c == 64 then (if runN r = 0 then bad 0 1 else if 24 < runN r then bad 0 3 else ⟨6,r.take (runN r),0,runN r + 1,0⟩)
  else if symN (c :: r) = 0 then bad 0 1 else ⟨5,(c :: r).take (symN (c :: r)),0,symN (c :: r),0⟩
structure Tk where
 k : Int
 s : Txt
 i : Int
 a : Int
structure TR where
 l : List Tk
 p : Nat
 e : Int
def addT (l : List Tk) (R : TR) : TR := if R.e = 0 then ⟨l ++ R.l,R.p,0⟩ else R
def quo (s : Txt) : Txt := s.flatMap fun c => if c == 34 || c == 92 then [92,c] else [c]
def wrt (t : Tk) : Txt := if t.k = 1 ∨ t.k = 2 ∨ t.k = 5 then t.s else if t.k = 3 then Num.fmtL t.i else if t.k = 4 then 34 :: (quo t.s ++ [34]) else if t.k = 6 then 64 :: t.s else []
def wholeB (s : Txt) : Bool := decide (1 ≤ s.length) && decide (s.length ≤ 24) && runN s == s.length
def printB (c : UInt8) : Bool := 32 ≤ c && c ≤ 126
def okT (t : Tk) : Bool :=
 if t.k = 1 then t.i == 0 && (wholeB t.s && !wordB t.s) else if t.k = 2 then t.i == 0 && wordB t.s else if t.k = 5 then t.i == 0 && symB t.s else if t.k = 6 then t.i == 0 && wholeB t.s
 else if t.k = 3 then t.s.isEmpty && (decide (0 ≤ t.i) && decide (t.i ≤ 1000000000000)) else if t.k = 4 then t.i == 0 && (t.s.all printB && decide (t.s.length ≤ 200)) else false
def fitB (t : Tk) (c : UInt8) : Bool := if t.k = 1 ∨ t.k = 2 ∨ t.k = 6 then !tailB c else if t.k = 3 then !digB c else if t.k = 5 then !symB (t.s ++ [c]) else true

theorem run_cons (c : UInt8) (r : Txt) : runN (c :: r) = if headB c then spanN tailB r + 1 else 0 := rfl
theorem span_le (p : UInt8 → Bool) : ∀ l,spanN p l ≤ l.length
 | [] => Nat.le_refl _
 | c :: r => by have := span_le p r; unfold spanN; split <;> simp <;> omega
theorem run_le : ∀ l,runN l ≤ l.length
 | [] => Nat.le_refl _
 | c :: r => by have := span_le tailB r; rw [run_cons]; split <;> simp <;> omega
theorem span_app (p : UInt8 → Bool) : ∀ (l r : Txt),l.all p = true → (∀ c,r.head? = some c → p c = false) → spanN p (l ++ r) = l.length
 | [],[],_,_ => rfl
 | [],c :: r,_,h => by rw [List.nil_append,spanN,h c rfl]; rfl
 | c :: l,r,h1,h2 => by
  rw [List.all_cons,Bool.and_eq_true] at h1
  rw [List.cons_append,spanN,if_pos h1.1,span_app p l r h1.2 h2]; rfl
theorem span_all (p : UInt8 → Bool) : ∀ (l : Txt),(l.take (spanN p l)).all p = true ∧ ∀ c,(l.drop (spanN p l)).head? = some c → p c = false
 | [] => ⟨rfl,fun c h => by cases h⟩
 | c :: r => by
  unfold spanN
  by_cases h : p c = true
  ·rw [if_pos h]
   obtain ⟨h1,h2⟩ := span_all p r
   exact ⟨by rw [List.take_succ_cons,List.all_cons,h,h1]; rfl,by rw [List.drop_succ_cons]; exact h2⟩
  ·rw [if_neg h]
   exact ⟨rfl,fun d hd => by simp at hd; subst hd; simpa using h⟩
theorem span_eq (p : UInt8 → Bool) : ∀ (l : Txt),l.all p = true → spanN p l = l.length := fun l h => by
 have := span_app p l [] h (fun c hc => by cases hc)
 rwa [List.append_nil] at this
theorem run_app (l r : Txt) (h : runN l = l.length) (h0 : l ≠ []) (hr : ∀ c,r.head? = some c → tailB c = false) : runN (l ++ r) = l.length := by
 cases l with
 | nil => exact absurd rfl h0
 | cons c q =>
  rw [run_cons] at h
  by_cases hc : headB c = true
  ·rw [if_pos hc] at h
   have e : spanN tailB q = q.length := by simp at h; omega
   have hq : q.all tailB = true := by have := (span_all tailB q).1; rwa [e,List.take_length] at this
   rw [List.cons_append,run_cons,if_pos hc,span_app tailB q r hq hr]; rfl
  ·rw [if_neg hc] at h; simp at h
theorem run_run (l : Txt) : runN (l.take (runN l)) = runN l ∧ ∀ c,0 < runN l → (l.drop (runN l)).head? = some c → tailB c = false := by
 cases l with
 | nil => exact ⟨rfl,fun c h => absurd h (Nat.lt_irrefl 0)⟩
 | cons c q =>
  rw [run_cons]
  by_cases hc : headB c = true
  ·rw [if_pos hc]
   obtain ⟨h1,h2⟩ := span_all tailB q
   refine ⟨?_,fun d _ hd => h2 d (by rwa [List.drop_succ_cons] at hd)⟩
   rw [List.take_succ_cons]
   show (if headB c then spanN tailB (q.take (spanN tailB q)) + 1 else 0) = _
   rw [if_pos hc,span_eq tailB _ h1,List.length_take,Nat.min_eq_left (span_le _ _)]
  ·rw [if_neg hc]
   exact ⟨rfl,fun d h => absurd h (Nat.lt_irrefl 0)⟩
theorem blank_not {c : UInt8} (h : blankB c = true) : tailB c = false ∧ digB c = false ∧ headB c = false := by
 unfold blankB at h
 have : c = 32 ∨ c = 9 ∨ c = 10 := by simpa [or_assoc] using h
 rcases this with rfl | rfl | rfl <;> decide
theorem fit_blank (t : Tk) {c : UInt8} (h : blankB c = true) : fitB t c = true := by
 obtain ⟨h1,h2,h3⟩ := blank_not h
 unfold fitB
 split
 ·rw [h1]; rfl
 split
 ·rw [h2]; rfl
 split
 ·have hc : c = 32 ∨ c = 9 ∨ c = 10 := by unfold blankB at h; simpa [or_assoc] using h
  cases hs : t.s with
  | nil => rcases hc with rfl | rfl | rfl <;> decide
  | cons d q =>
   cases q with
   | nil =>
    show (!twos.contains [d,c]) = true
    rcases hc with rfl | rfl | rfl <;> simp [twos]
   | cons d2 q2 =>
    cases q2 <;> rfl
 ·rfl

theorem quo_cons (c : UInt8) (s : Txt) : quo (c :: s) = (if c == 34 || c == 92 then [92,c] else [c]) ++ quo s := rfl
theorem print_not {c : UInt8} (h : printB c = true) : (c < 32 || 126 < c) = false := by
 unfold printB at h
 rw [Bool.and_eq_true,decide_eq_true_eq,decide_eq_true_eq,UInt8.le_iff_toNat_le,UInt8.le_iff_toNat_le] at h
 rw [Bool.or_eq_false_iff,decide_eq_false_iff_not,decide_eq_false_iff_not,UInt8.lt_iff_toNat_lt,UInt8.lt_iff_toNat_lt]
 have e1 : (32 : UInt8).toNat = 32 := rfl
 have e2 : (126 : UInt8).toNat = 126 := rfl
 omega
theorem not_print {c : UInt8} (h : ¬ (c < 32 || 126 < c) = true) : printB c = true := by
 unfold printB
 rw [Bool.not_eq_true,Bool.or_eq_false_iff,decide_eq_false_iff_not,decide_eq_false_iff_not,UInt8.lt_iff_toNat_lt,UInt8.lt_iff_toNat_lt] at h
 rw [Bool.and_eq_true,decide_eq_true_eq,decide_eq_true_eq,UInt8.le_iff_toNat_le,UInt8.le_iff_toNat_le]
 have e1 : (32 : UInt8).toNat = 32 := rfl
 have e2 : (126 : UInt8).toNat = 126 := rfl
 omega
theorem strT_read : ∀ (s : Txt) (m p : Nat) (r : Txt),s.all printB = true → m + s.length ≤ 200 → strT m p (quo s ++ 34 :: r) = ⟨4,s,0,p + (quo s).length + 1,0⟩
 | [],m,p,r,_,_ => by show strT m p (34 :: r) = _; rw [strT_cons,if_pos (by decide)]; rfl
 | c :: s,m,p,r,h1,h2 => by
  rw [List.all_cons,Bool.and_eq_true] at h1
  simp only [List.length_cons] at h2
  have hm : ¬ m = 200 := by omega
  rw [quo_cons]
  by_cases hc : (c == 34 || c == 92) = true
  ·have ih := strT_read s (m + 1) (p + 2) r h1.2 (by omega)
   rw [if_pos hc]
   show strT m p (92 :: c :: (quo s ++ 34 :: r)) = _
   rw [strT_cons,if_neg (by decide),if_neg (by decide),if_pos (by decide)]
   simp only
   rw [if_pos hc,if_neg hm,ih]
   simp [addC]
   omega
  ·have ih := strT_read s (m + 1) (p + 1) r h1.2 (by omega)
   rw [if_neg hc]
   rw [Bool.not_eq_true,Bool.or_eq_false_iff] at hc
   show strT m p (c :: (quo s ++ 34 :: r)) = _
   rw [strT_cons,hc.1,print_not h1.1,hc.2]
   simp only [Bool.false_eq_true,if_false]
   rw [if_neg hm,ih]
   simp [addC]
   omega
theorem addC_e {t : Txt} {R : Rd} (h : (addC t R).e = 0) : R.e = 0 ∧ addC t R = ⟨R.k,t ++ R.s,R.i,R.n,0⟩ := by
 unfold addC at h ⊢
 by_cases g : R.e = 0
 ·exact ⟨g,if_pos g⟩
 ·rw [if_neg g] at h
  exact absurd h g
def StrOk (m p : Nat) (l : Txt) (R : Rd) : Prop := R.k = 4 ∧ R.i = 0 ∧ R.s.all printB = true ∧ m + R.s.length ≤ 200 ∧ ∃ r,l = quo R.s ++ 34 :: r ∧ R.n = p + (quo R.s).length + 1
theorem strT_back : ∀ (l : Txt) (m p : Nat),m ≤ 200 → (strT m p l).e = 0 → StrOk m p l (strT m p l)
 | [],m,p,_,h => by rw [strT.eq_def] at h; cases h
 | c :: r,m,p,hm,h => by
  rw [strT_cons] at h ⊢
  by_cases h1 : (c == 34) = true
  ·rw [if_pos h1]
   have : c = 34 := by simpa using h1
   subst this
   exact ⟨rfl,rfl,rfl,hm,r,rfl,rfl⟩
  rw [if_neg h1] at h ⊢
  by_cases h2 : (c < 32 || 126 < c) = true
  ·rw [if_pos h2] at h; cases h
  rw [if_neg h2] at h ⊢
  by_cases h3 : (c == 92) = true
  ·rw [if_pos h3] at h ⊢
   have : c = 92 := by simpa using h3
   subst this
   cases r with
   | nil => cases h
   | cons d q =>
    simp only at h ⊢
    by_cases h4 : (d == 34 || d == 92) = true
    ·rw [if_pos h4] at h ⊢
     by_cases h5 : m = 200
     ·rw [if_pos h5] at h; cases h
     rw [if_neg h5] at h ⊢
     obtain ⟨he,ha⟩ := addC_e h
     obtain ⟨a1,a2,a3,a4,r',a5,a6⟩ := strT_back q (m + 1) (p + 2) (by omega) he
     rw [ha]
     generalize strT (m + 1) (p + 2) q = R at *
     have hd : printB d = true := by
      have : d = 34 ∨ d = 92 := by simpa using h4
      rcases this with rfl | rfl <;> decide
     refine ⟨a1,a2,by show ([d] ++ R.s).all printB = true; simp only [List.singleton_append,List.all_cons,hd,a3]; rfl,by show m + ([d] ++ R.s).length ≤ 200; simp; omega,r',?_,?_⟩
     ·show _ = quo (d :: R.s) ++ _
      rw [quo_cons,if_pos h4,a5]; rfl
     ·show R.n = p + (quo (d :: R.s)).length + 1
      rw [quo_cons,if_pos h4,a6]; simp; omega
    ·rw [if_neg h4] at h; cases h
  ·rw [if_neg h3] at h ⊢
   by_cases h5 : m = 200
   ·rw [if_pos h5] at h; cases h
   rw [if_neg h5] at h ⊢
   obtain ⟨he,ha⟩ := addC_e h
   obtain ⟨a1,a2,a3,a4,r',a5,a6⟩ := strT_back r (m + 1) (p + 1) (by omega) he
   rw [ha]
   generalize strT (m + 1) (p + 1) r = R at *
   have hd := not_print h2
   have h4 : ¬ (c == 34 || c == 92) = true := by
    rw [Bool.or_eq_true]
    rintro (g | g)
    ·exact h1 g
    ·exact h3 g
   refine ⟨a1,a2,by show ([c] ++ R.s).all printB = true; simp only [List.singleton_append,List.all_cons,hd,a3]; rfl,by show m + ([c] ++ R.s).length ≤ 200; simp; omega,r',?_,?_⟩
   ·show _ = quo (c :: R.s) ++ _
    rw [quo_cons,if_neg h4,a5]; rfl
   ·show R.n = p + (quo (c :: R.s)).length + 1
    rw [quo_cons,if_neg h4,a6]; simp; omega
theorem dig_is (c : UInt8) : digB c = Num.isDig c := by
 unfold digB Num.isDig
 rw [Bool.eq_iff_iff]
 simp [UInt8.le_iff_toNat_le]
theorem fmt_dig (i : Int) (h : 0 ≤ i) (h2 : i ≤ 1000000000000) : (Num.fmtL i).all digB = true ∧ Num.fmtL i ≠ [] ∧ Num.parE (Num.fmtL i) = 0 ∧ Num.parV (Num.fmtL i) = i := by
 obtain ⟨N,rfl⟩ := Int.eq_ofNat_of_zero_le h
 have hf : Num.fmtL (N : Int) = Num.digs (Num.ndF 18 N) N := by rw [Num.fmtL,if_neg (by omega),Num.abz_pos (by omega)]; rfl
 have hp := Num.parse_fmt (N : Int) (by omega) (by omega)
 have hv : Num.vld (N : Int) = true := Num.vld_of (by omega) (by omega)
 rw [hv,if_pos rfl,if_pos rfl] at hp
 have hd := Num.decB_digs N (by omega)
 rw [Num.decB,Bool.and_eq_true] at hd
 refine ⟨?_,?_,hp.2,hp.1⟩
 ·rw [hf,show digB = Num.isDig from funext dig_is]
  exact hd.1
 ·rw [hf]
  intro e
  rw [e] at hd
  exact absurd hd.2 (by decide)
theorem words_whole : ∀ s ∈ words,wholeB s = true := by decide
theorem word_whole {s : Txt} (h : wordB s = true) : wholeB s = true := words_whole s (by unfold wordB at h; simpa using h)
theorem whole_parts {s : Txt} (h : wholeB s = true) : (1 ≤ s.length ∧ s.length ≤ 24) ∧ runN s = s.length := by
 unfold wholeB at h
 simpa [and_assoc] using h
theorem whole_head {s : Txt} (h : wholeB s = true) : ∃ c q,s = c :: q ∧ headB c = true := by
 obtain ⟨⟨h1,_⟩,h3⟩ := whole_parts h
 cases s with
 | nil => simp at h1
 | cons c q =>
  refine ⟨c,q,rfl,?_⟩
  rw [run_cons] at h3
  by_cases g : headB c = true
  ·exact g
  ·rw [if_neg g] at h3; simp at h3
theorem signs_not : ∀ c ∈ signs,headB c = false ∧ digB c = false ∧ (c == 34) = false ∧ (c == 64) = false := by decide
theorem twos_not : ∀ s ∈ twos,∃ c d,s = [c,d] ∧ headB c = false ∧ digB c = false ∧ (c == 34) = false ∧ (c == 64) = false := by
 intro s hs
 simp only [twos,List.mem_cons,List.not_mem_nil,or_false] at hs
 rcases hs with rfl | rfl | rfl | rfl <;> exact ⟨_,_,rfl,by decide⟩
theorem sym_parts {s : Txt} (h : symB s = true) : (∃ c,s = [c] ∧ headB c = false ∧ digB c = false ∧ (c == 34) = false ∧ (c == 64) = false) ∨ (∃ c d,s = [c,d] ∧ headB c = false ∧ digB c = false ∧ (c == 34) = false ∧ (c == 64) = false) := by
 cases s with
 | nil => cases h
 | cons c q =>
  cases q with
  | nil => exact Or.inl ⟨c,rfl,signs_not c (by simpa [symB] using h)⟩
  | cons d q2 =>
   cases q2 with
   | nil =>
    obtain ⟨c',d',e,h⟩ := twos_not [c,d] (by simpa [symB] using h)
    injection e with e1 e2
    injection e2 with e2
    subst e1 e2
    exact Or.inr ⟨c,d,rfl,h⟩
   | cons x q3 => cases h
theorem head_not_dig {c : UInt8} (h : digB c = true) : headB c = false := by
 unfold digB at h
 unfold headB
 rw [Bool.and_eq_true,decide_eq_true_eq,decide_eq_true_eq,UInt8.le_iff_toNat_le,UInt8.le_iff_toNat_le] at h
 have e1 : (57 : UInt8).toNat = 57 := rfl
 have e2 : (97 : UInt8).toNat = 97 := rfl
 rw [Bool.or_eq_false_iff,Bool.and_eq_false_iff]
 refine ⟨Or.inl (decide_eq_false ?_),beq_eq_false_iff_ne.2 ?_⟩
 ·rw [UInt8.le_iff_toNat_le]; omega
 ·rintro rfl
  have : (95 : UInt8).toNat = 95 := rfl
  omega
theorem read_wrt (t : Tk) (r : Txt) (h : okT t = true) (hr : ∀ c,r.head? = some c → fitB t c = true) : rdT (wrt t ++ r) = ⟨t.k,t.s,t.i,(wrt t).length,0⟩ := by
 obtain ⟨k,s,i,a⟩ := t
 unfold okT at h
 unfold fitB at hr
 unfold wrt
 dsimp only at h hr ⊢
 by_cases h1 : k = 1
 ·subst h1
  rw [if_pos rfl,Bool.and_eq_true,Bool.and_eq_true,beq_iff_eq] at h
  obtain ⟨rfl,hw,hn⟩ := h
  rw [if_pos (Or.inl rfl)]
  obtain ⟨c,q,rfl,hc⟩ := whole_head hw
  obtain ⟨⟨_,w2⟩,w3⟩ := whole_parts hw
  have hr2 := run_app (c :: q) r w3 (by simp) (fun d hd => by have := hr d hd; simpa using this)
  rw [List.cons_append] at hr2
  rw [List.cons_append,rdT,if_pos hc,hr2,if_neg (by omega),← List.cons_append,List.take_left]
  rw [Bool.not_eq_true'] at hn
  rw [hn]
  rfl
 by_cases h2 : k = 2
 ·subst h2
  rw [if_neg (by decide),if_pos rfl,Bool.and_eq_true,beq_iff_eq] at h
  obtain ⟨rfl,hn⟩ := h
  have hw := word_whole hn
  rw [if_pos (Or.inr (Or.inl rfl))]
  obtain ⟨c,q,rfl,hc⟩ := whole_head hw
  obtain ⟨⟨_,w2⟩,w3⟩ := whole_parts hw
  have hr2 := run_app (c :: q) r w3 (by simp) (fun d hd => by have := hr d hd; simpa using this)
  rw [List.cons_append] at hr2
  rw [List.cons_append,rdT,if_pos hc,hr2,if_neg (by omega),← List.cons_append,List.take_left,hn]
  rfl
 by_cases h5 : k = 5
 ·subst h5
  rw [if_neg (by decide),if_neg (by decide),if_pos rfl,Bool.and_eq_true,beq_iff_eq] at h
  obtain ⟨rfl,hn⟩ := h
  rw [if_pos (Or.inr (Or.inr rfl))]
  simp only [show ¬ ((5 : Int) = 1 ∨ (5 : Int) = 2 ∨ (5 : Int) = 6) by decide,if_false,show ¬ (5 : Int) = 3 by decide,if_true] at hr
  rcases sym_parts hn with ⟨c,rfl,g1,g2,g3,g4⟩ | ⟨c,d,rfl,g1,g2,g3,g4⟩
  ·have hN : symN ([c] ++ r) = 1 := by
    cases r with
    | nil => show (if symB [c] then 1 else 0) = 1; rw [if_pos hn]
    | cons d q =>
     have := hr d rfl
     show (if symB [c,d] then 2 else if symB [c] then 1 else 0) = 1
     rw [Bool.not_eq_true'] at this
     rw [show symB [c,d] = false from this,if_pos hn]; rfl
   rw [List.singleton_append] at hN ⊢
   rw [rdT,g1,g2,g3,g4,hN]
   rfl
  ·have hN : symN (c :: d :: r) = 2 := by
    show (if symB [c,d] then 2 else if symB [c] then 1 else 0) = 2
    rw [if_pos hn]
   show rdT (c :: d :: r) = _
   rw [rdT,g1,g2,g3,g4,hN]
   rfl
 by_cases h6 : k = 6
 ·subst h6
  rw [if_neg (by decide),if_neg (by decide),if_neg (by decide),if_pos rfl,Bool.and_eq_true,beq_iff_eq] at h
  obtain ⟨rfl,hw⟩ := h
  rw [if_neg (by decide),if_neg (by decide),if_neg (by decide),if_pos rfl]
  obtain ⟨⟨w1,w2⟩,w3⟩ := whole_parts hw
  have hr2 := run_app s r w3 (by rintro rfl; simp at w1) (fun d hd => by have := hr d hd; simpa using this)
  rw [List.cons_append,rdT,show headB 64 = false by decide,show digB 64 = false by decide,show ((64 : UInt8) == 34) = false by decide,show ((64 : UInt8) == 64) = true by decide,hr2,List.take_left]
  simp only [Bool.false_eq_true,if_false,if_true]
  rw [if_neg (by omega),if_neg (by omega)]
  rfl
 by_cases h3 : k = 3
 ·subst h3
  rw [if_neg (by decide),if_neg (by decide),if_neg (by decide),if_neg (by decide),if_pos rfl,Bool.and_eq_true,Bool.and_eq_true,decide_eq_true_eq,decide_eq_true_eq,List.isEmpty_iff] at h
  obtain ⟨rfl,hi,hi2⟩ := h
  rw [if_neg (by decide),if_pos rfl]
  obtain ⟨f1,f2,f3,f4⟩ := fmt_dig i hi hi2
  have hs := span_app digB (Num.fmtL i) r f1 (fun d hd => by have := hr d hd; simpa using this)
  have ht : (Num.fmtL i ++ r).take (spanN digB (Num.fmtL i ++ r)) = Num.fmtL i := by rw [hs,List.take_left]
  generalize Num.fmtL i = F at *
  cases F with
  | nil => exact absurd rfl f2
  | cons c q =>
   have hc : digB c = true := by rw [List.all_cons,Bool.and_eq_true] at f1; exact f1.1
   rw [List.cons_append] at hs ht ⊢
   rw [rdT,head_not_dig hc,hc,ht,hs,f3,f4]
   rfl
 by_cases h4 : k = 4
 ·subst h4
  rw [if_neg (by decide),if_neg (by decide),if_neg (by decide),if_neg (by decide),if_neg (by decide),if_pos rfl,Bool.and_eq_true,Bool.and_eq_true,beq_iff_eq,decide_eq_true_eq] at h
  obtain ⟨rfl,hp,hl⟩ := h
  rw [if_neg (by decide),if_neg (by decide),if_pos rfl]
  have := strT_read s 0 1 r hp (by omega)
  show rdT (34 :: ((quo s ++ [34]) ++ r)) = _
  rw [List.append_assoc,List.singleton_append,rdT,show headB 34 = false by decide,show digB 34 = false by decide,show ((34 : UInt8) == 34) = true by decide]
  simp only [Bool.false_eq_true,if_false,if_true]
  rw [this]
  simp
  omega
 ·simp only [h1,h2,h5,h6,h3,h4,if_false,Bool.false_eq_true] at h
set_option linter.unusedVariables false

def RdOk (l : Txt) (R : Rd) : Prop := ∀ a,∃ r,okT ⟨R.k,R.s,R.i,a⟩ = true ∧ l = wrt ⟨R.k,R.s,R.i,a⟩ ++ r ∧ R.n = (wrt ⟨R.k,R.s,R.i,a⟩).length ∧ 1 ≤ R.n ∧ ∀ c,r.head? = some c → fitB ⟨R.k,R.s,R.i,a⟩ c = true
theorem whole_take (l : Txt) (h0 : 0 < runN l) (h1 : runN l ≤ 24) : wholeB (l.take (runN l)) = true := by
 have hl := run_le l
 have e := (run_run l).1
 unfold wholeB
 rw [e,List.length_take,Nat.min_eq_left hl,decide_eq_true (show 1 ≤ runN l from h0),decide_eq_true h1]
 simp
theorem fmt_head {i : Int} (h : i < 0) : ∃ q,Num.fmtL i = 45 :: q := ⟨_,by rw [Num.fmtL,if_pos h]; rfl⟩
theorem vld_parts {i : Int} (h : Num.vld i = true) : -1000000000000 ≤ i ∧ i ≤ 1000000000000 := by
 unfold Num.vld at h
 simpa using h
theorem sym_one {c : UInt8} {r : Txt} (h : symN (c :: r) ≠ 0) : (∃ d q,r = d :: q ∧ symB [c,d] = true ∧ symN (c :: r) = 2) ∨ (symB [c] = true ∧ symN (c :: r) = 1 ∧ ∀ d,r.head? = some d → symB [c,d] = false) := by
 cases r with
 | nil =>
  change (if symB [c] then 1 else 0) ≠ 0 at h
  right
  by_cases g : symB [c] = true
  ·exact ⟨g,by show (if symB [c] then 1 else 0) = 1; rw [if_pos g],fun d hd => by cases hd⟩
  ·rw [if_neg g] at h; exact absurd rfl h
 | cons d q =>
  change (if symB [c,d] then 2 else if symB [c] then 1 else 0) ≠ 0 at h
  by_cases g2 : symB [c,d] = true
  ·exact Or.inl ⟨d,q,rfl,g2,by show (if symB [c,d] then 2 else if symB [c] then 1 else 0) = 2; rw [if_pos g2]⟩
  ·right
   rw [if_neg g2] at h
   by_cases g : symB [c] = true
   ·exact ⟨g,by show (if symB [c,d] then 2 else if symB [c] then 1 else 0) = 1; rw [if_neg g2,if_pos g],fun x hx => by simp at hx; subst hx; simpa using g2⟩
   ·rw [if_neg g] at h; exact absurd rfl h
theorem rd_back (l : Txt) (h : (rdT l).e = 0) : RdOk l (rdT l) := by
 cases l with
 | nil => cases h
 | cons c r =>
  rw [rdT] at h ⊢
  by_cases h1 : headB c = true
  ·rw [if_pos h1] at h ⊢
   by_cases h2 : 24 < runN (c :: r)
   ·rw [if_pos h2] at h; cases h
   rw [if_neg h2] at h ⊢
   have h0 : 0 < runN (c :: r) := by rw [run_cons,if_pos h1]; omega
   have hw := whole_take (c :: r) h0 (by omega)
   have hf := (run_run (c :: r)).2
   have hl := run_le (c :: r)
   have ht := List.take_append_drop (runN (c :: r)) (c :: r)
   have hn : ((c :: r).take (runN (c :: r))).length = runN (c :: r) := by rw [List.length_take,Nat.min_eq_left hl]
   generalize (c :: r).take (runN (c :: r)) = T at *
   generalize runN (c :: r) = n at *
   intro a
   refine ⟨(c :: r).drop n,?_,?_,?_,h0,?_⟩
   ·unfold okT
    cases hb : wordB T with
    | true => simp
    | false => simp [hw]
   ·have : wrt ⟨if wordB T then 2 else 1,T,0,a⟩ = T := by unfold wrt; cases wordB T <;> rfl
    rw [this,ht]
   ·have : wrt ⟨if wordB T then 2 else 1,T,0,a⟩ = T := by unfold wrt; cases wordB T <;> rfl
    rw [this,hn]
   ·intro d hd
    have := hf d h0 hd
    unfold fitB
    cases wordB T <;> simp [this]
  rw [if_neg h1] at h ⊢
  by_cases h2 : digB c = true
  ·rw [if_pos h2] at h ⊢
   have hs := span_all digB (c :: r)
   have hl := span_le digB (c :: r)
   have h0 : 0 < spanN digB (c :: r) := by rw [spanN,if_pos h2]; omega
   have ht := List.take_append_drop (spanN digB (c :: r)) (c :: r)
   have hn : ((c :: r).take (spanN digB (c :: r))).length = spanN digB (c :: r) := by rw [List.length_take,Nat.min_eq_left hl]
   generalize (c :: r).take (spanN digB (c :: r)) = T at *
   generalize spanN digB (c :: r) = n at *
   by_cases h3 : Num.parE T = 0
   ·rw [if_pos h3] at h ⊢
    obtain ⟨p1,p2⟩ := Num.fmt_parse T h3
    obtain ⟨v1,v2⟩ := vld_parts p1
    have hp : 0 ≤ Num.parV T := by
     rcases Int.lt_or_le (Num.parV T) 0 with g | g
     ·obtain ⟨q,e⟩ := fmt_head g
      rw [p2] at e
      rw [e] at hs
      exact absurd hs.1 (by simp only [List.all_cons]; rw [show digB 45 = false by decide]; simp)
     ·exact g
    intro a
    refine ⟨(c :: r).drop n,?_,?_,?_,h0,?_⟩
    ·unfold okT
     simp [hp,v2]
    ·show _ = Num.fmtL (Num.parV T) ++ _
     rw [p2,ht]
    ·show _ = (Num.fmtL (Num.parV T)).length
     rw [p2,hn]
    ·intro d hd
     have := hs.2 d hd
     unfold fitB
     simp [this]
   ·rw [if_neg h3] at h; exact absurd h h3
  rw [if_neg h2] at h ⊢
  by_cases h3 : (c == 34) = true
  ·rw [if_pos h3] at h ⊢
   have : c = 34 := by simpa using h3
   subst this
   obtain ⟨a1,a2,a3,a4,q,a5,a6⟩ := strT_back r 0 1 (by omega) h
   generalize strT 0 1 r = R at *
   obtain ⟨k,s,i,n,e⟩ := R
   dsimp only at a1 a2 a3 a4 a5 a6 h ⊢
   subst a1 a2 h
   intro a
   refine ⟨q,?_,?_,?_,by dsimp only; omega,fun d hd => rfl⟩
   ·unfold okT
    simp only [a3]
    simp
    omega
   ·show 34 :: r = 34 :: (quo s ++ [34]) ++ q
    rw [a5]; simp
   ·show n = (34 :: (quo s ++ [34])).length
    rw [a6]; simp; omega
  rw [if_neg h3] at h ⊢
  by_cases h4 : (c == 64) = true
  ·rw [if_pos h4] at h ⊢
   have : c = 64 := by simpa using h4
   subst this
   by_cases h0 : runN r = 0
   ·rw [if_pos h0] at h; cases h
   rw [if_neg h0] at h ⊢
   by_cases h24 : 24 < runN r
   ·rw [if_pos h24] at h; cases h
   rw [if_neg h24] at h ⊢
   have hw := whole_take r (by omega) (by omega)
   have hf := (run_run r).2
   have hl := run_le r
   have ht := List.take_append_drop (runN r) r
   have hn : (r.take (runN r)).length = runN r := by rw [List.length_take,Nat.min_eq_left hl]
   generalize r.take (runN r) = T at *
   generalize runN r = n at *
   intro a
   refine ⟨r.drop n,?_,?_,?_,by dsimp only; omega,?_⟩
   ·unfold okT
    simp [hw]
   ·show _ = 64 :: T ++ _
    rw [List.cons_append,ht]
   ·show _ = (64 :: T).length
    rw [List.length_cons,hn]
   ·intro d hd
    have := hf d (by omega) hd
    unfold fitB
    simp [this]
  rw [if_neg h4] at h ⊢
  by_cases h5 : symN (c :: r) = 0
  ·rw [if_pos h5] at h; cases h
  rw [if_neg h5] at h ⊢
  intro a
  rcases sym_one h5 with ⟨d,q,rfl,g1,g2⟩ | ⟨g1,g2,g3⟩
  ·rw [g2]
   refine ⟨q,?_,rfl,rfl,by dsimp only; omega,fun x hx => ?_⟩
   ·unfold okT
    simp [g1]
   ·unfold fitB
    rfl
  ·rw [g2]
   refine ⟨r,?_,rfl,rfl,by dsimp only; omega,fun x hx => ?_⟩
   ·unfold okT
    simp [g1]
   ·have := g3 x hx
    show (!symB [c,x]) = true
    rw [this]; rfl
theorem rd_pos {l : Txt} (h : (rdT l).e = 0) : 1 ≤ (rdT l).n ∧ (rdT l).n ≤ l.length := by
 obtain ⟨r,_,h2,h3,h4,_⟩ := rd_back l h 0
 refine ⟨h4,?_⟩
 have := congrArg List.length h2
 rw [List.length_append,← h3] at this
 omega
def nxt (l : Txt) : Nat := (rdT l).n + skipN false (l.drop (rdT l).n)
theorem skip_le : ∀ (b : Bool) (l : Txt),skipN b l ≤ l.length
 | b,[] => by cases b <;> exact Nat.le_refl _
 | true,c :: r => by rw [skipN]; have := skip_le (c != 10) r; simp; omega
 | false,c :: r => by
  rw [skipN]
  have h1 := skip_le false r
  have h2 := skip_le true r
  split
  ·simp; omega
  split <;> simp <;> omega
theorem nxt_le {l : Txt} (h : (rdT l).e = 0) : 1 ≤ nxt l ∧ nxt l ≤ l.length := by
 have h1 := rd_pos h
 have h2 := skip_le false (l.drop (rdT l).n)
 rw [List.length_drop] at h2
 unfold nxt
 omega
def toks (m p : Nat) (l : Txt) : TR :=
 if hl : l = [] then ⟨[],0,0⟩ else if m = 1000 then ⟨[],p,3⟩ else if h : (rdT l).e = 0 then addT [⟨(rdT l).k,(rdT l).s,(rdT l).i,p⟩] (toks (m + 1) (p + nxt l) (l.drop (nxt l))) else ⟨[],p + (rdT l).n,(rdT l).e⟩
termination_by l.length
decreasing_by
 have h1 := nxt_le h
 have h2 : 0 < l.length := List.length_pos_iff.2 hl
 rw [List.length_drop]
 omega
theorem toks_nil (m p : Nat) : toks m p [] = ⟨[],0,0⟩ := by rw [toks,dif_pos rfl]
theorem toks_full (p : Nat) {l : Txt} (hl : l ≠ []) : toks 1000 p l = ⟨[],p,3⟩ := by rw [toks,dif_neg hl,if_pos rfl]
theorem toks_bad {m p : Nat} {l : Txt} (hl : l ≠ []) (hm : m ≠ 1000) (h : (rdT l).e ≠ 0) : toks m p l = ⟨[],p + (rdT l).n,(rdT l).e⟩ := by rw [toks,dif_neg hl,if_neg hm,dif_neg h]
theorem toks_step {m p : Nat} {l : Txt} (hl : l ≠ []) (hm : m ≠ 1000) (h : (rdT l).e = 0) : toks m p l = addT [⟨(rdT l).k,(rdT l).s,(rdT l).i,p⟩] (toks (m + 1) (p + nxt l) (l.drop (nxt l))) := by
 conv => lhs; rw [toks,dif_neg hl,if_neg hm,dif_pos h]
def tokens (s : Txt) : TR := if 4000 < s.length then ⟨[],0,3⟩ else toks 0 (skipN false s) (s.drop (skipN false s))
set_option linter.unusedVariables false

def txtT (t : Tk) : Txt := if okT t then wrt t else []
def txtE (t : Tk) : Int := if okT t then 0 else 1
def core (t : Tk) : Int × Txt × Int := (t.k,t.s,t.i)
theorem okT_core {t u : Tk} (h : core t = core u) : okT t = okT u ∧ wrt t = wrt u := by
 unfold core at h
 simp only [Prod.mk.injEq] at h
 obtain ⟨h1,h2,h3⟩ := h
 unfold okT wrt
 rw [h1,h2,h3]
 exact ⟨rfl,rfl⟩
theorem wrt_head (t : Tk) (r : Txt) (h : okT t = true) (hr : ∀ c,r.head? = some c → blankB c = true) : wrt t ++ r ≠ [] ∧ skipN false (wrt t ++ r) = 0 := by
 have hb := read_wrt t r h (fun c hc => fit_blank t (hr c hc))
 have hn : (rdT (wrt t ++ r)).e = 0 := by rw [hb]
 have hp := rd_pos hn
 rw [hb] at hp
 dsimp only at hp
 cases hw : wrt t with
 | nil => rw [hw] at hp; simp at hp
 | cons c q =>
  rw [hw] at hb hn
  refine ⟨by simp,?_⟩
  rw [List.cons_append] at hb hn ⊢
  rw [skipN]
  have hc : blankB c = false := by
   cases g : blankB c with
   | false => rfl
   | true =>
    have : c = 32 ∨ c = 9 ∨ c = 10 := by unfold blankB at g; simpa [or_assoc] using g
    have hs : symN (c :: (q ++ r)) = 0 := by
     cases hqr : q ++ r with
     | nil => rcases this with rfl | rfl | rfl <;> rfl
     | cons d x =>
      show (if symB [c,d] then 2 else if symB [c] then 1 else 0) = 0
      rcases this with rfl | rfl | rfl <;> simp [symB,twos,signs]
    rw [rdT] at hn
    rcases this with rfl | rfl | rfl
    all_goals
     rw [if_neg (by decide),if_neg (by decide),if_neg (by decide),if_neg (by decide),if_pos hs] at hn
     cases hn
  rw [hc,if_neg (by decide)]
  by_cases hs : (c == 47 && (q ++ r).head? == some 47) = true
  ·exfalso
   rw [Bool.and_eq_true,beq_iff_eq,beq_iff_eq] at hs
   obtain ⟨rfl,h47⟩ := hs
   have hlen : (rdT (47 :: (q ++ r))).n = 1 := by
    cases hqr : q ++ r with
    | nil => rfl
    | cons d x =>
     rw [hqr] at h47
     have : d = 47 := by simpa using h47
     subst this
     rfl
   rw [hb] at hlen
   dsimp only at hlen
   have hq : q = [] := by simpa using hlen
   subst hq
   have := hr 47 h47
   exact absurd this (by decide)
  ·rw [if_neg hs]
theorem tokens_one (t : Tk) (h : okT t = true) : toks 0 0 (wrt t) = ⟨[⟨t.k,t.s,t.i,0⟩],0,0⟩ ∧ skipN false (wrt t) = 0 := by
 have h1 := wrt_head t [] h (fun c hc => by cases hc)
 have h2 := read_wrt t [] h (fun c hc => by cases hc)
 rw [List.append_nil] at h1 h2
 have he : (rdT (wrt t)).e = 0 := by rw [h2]
 have hn : nxt (wrt t) = (wrt t).length := by
  unfold nxt
  rw [h2]
  simp [skipN]
 refine ⟨?_,h1.2⟩
 rw [toks_step h1.1 (by decide) he,hn,List.drop_length,toks_nil,h2]
 rfl
theorem one_token {t : Tk} (h : (tokens (wrt t)).e = 0) (hl : (tokens (wrt t)).l = [⟨t.k,t.s,t.i,0⟩]) : okT t = true := by
 unfold tokens at h hl
 by_cases h4 : 4000 < (wrt t).length
 ·rw [if_pos h4] at h; cases h
 rw [if_neg h4] at h hl
 generalize (wrt t).drop (skipN false (wrt t)) = l at h hl
 generalize skipN false (wrt t) = p at h hl
 by_cases hn : l = []
 ·subst hn
  rw [toks_nil] at hl
  cases hl
 by_cases he : (rdT l).e = 0
 ·rw [toks_step hn (by decide) he] at h hl
  unfold addT at h hl
  by_cases g : (toks (0 + 1) (p + nxt l) (l.drop (nxt l))).e = 0
  ·rw [if_pos g] at hl
   simp only [List.singleton_append,List.cons.injEq,Tk.mk.injEq] at hl
   obtain ⟨⟨e1,e2,e3,_⟩,_⟩ := hl
   obtain ⟨r,hk,_⟩ := rd_back l he t.a
   rw [e1,e2,e3] at hk
   exact hk
  ·rw [if_neg g] at h; exact absurd h g
 ·rw [toks_bad hn (by decide) he] at h
  exact absurd h he
theorem quo_len (s : Txt) : (quo s).length ≤ s.length * 2 := by
 induction s with
 | nil => exact Nat.le_refl _
 | cons c r ih =>
  rw [quo_cons,List.length_append,List.length_cons]
  split <;> simp <;> omega
theorem digs_len2 (i : Int) (h : 0 ≤ i) (h2 : i ≤ 1000000000000) : (Num.fmtL i).length ≤ 20 := by
 obtain ⟨N,rfl⟩ := Int.eq_ofNat_of_zero_le h
 have hf : Num.fmtL (N : Int) = Num.digs (Num.ndF 18 N) N := by rw [Num.fmtL,if_neg (by omega),Num.abz_pos (by omega)]; rfl
 rw [hf,Num.digs_len]
 have : ∀ f n,Num.ndF f n ≤ f + 1 := by
  intro f
  induction f with
  | zero => intro n; exact Nat.le_refl _
  | succ f ih => intro n; have := ih (n / 10); rw [Num.ndF]; split <;> omega
 have := this 18 N
 omega
theorem ok_len {t : Tk} (h : okT t = true) : t.s.length ≤ 200 ∧ (wrt t).length ≤ 402 := by
 obtain ⟨k,s,i,a⟩ := t
 unfold okT at h
 unfold wrt
 dsimp only at h ⊢
 by_cases h1 : k = 1
 ·subst h1
  rw [if_pos rfl,Bool.and_eq_true,Bool.and_eq_true] at h
  have := whole_parts h.2.1
  simp; omega
 by_cases h2 : k = 2
 ·subst h2
  rw [if_neg (by decide),if_pos rfl,Bool.and_eq_true] at h
  have := whole_parts (word_whole h.2)
  simp; omega
 by_cases h5 : k = 5
 ·subst h5
  rw [if_neg (by decide),if_neg (by decide),if_pos rfl,Bool.and_eq_true] at h
  rcases sym_parts h.2 with ⟨c,rfl,_⟩ | ⟨c,d,rfl,_⟩ <;> simp
 by_cases h6 : k = 6
 ·subst h6
  rw [if_neg (by decide),if_neg (by decide),if_neg (by decide),if_pos rfl,Bool.and_eq_true] at h
  have := whole_parts h.2
  simp; omega
 by_cases h3 : k = 3
 ·subst h3
  rw [if_neg (by decide),if_neg (by decide),if_neg (by decide),if_neg (by decide),if_pos rfl,Bool.and_eq_true,Bool.and_eq_true,decide_eq_true_eq,decide_eq_true_eq,List.isEmpty_iff] at h
  obtain ⟨rfl,hi,hi2⟩ := h
  have := digs_len2 i hi hi2
  simp; omega
 by_cases h4 : k = 4
 ·subst h4
  rw [if_neg (by decide),if_neg (by decide),if_neg (by decide),if_neg (by decide),if_neg (by decide),if_pos rfl,Bool.and_eq_true,Bool.and_eq_true,decide_eq_true_eq] at h
  have := quo_len s
  simp; omega
 ·simp only [h1,h2,h5,h6,h3,h4,if_false,Bool.false_eq_true] at h
theorem txt_code (t : Tk) : okT t = true ↔ ((tokens (wrt t)).e = 0 ∧ (tokens (wrt t)).l = [⟨t.k,t.s,t.i,0⟩]) := by
 constructor
 ·intro h
  obtain ⟨h1,h2⟩ := tokens_one t h
  have hl := (ok_len h).2
  unfold tokens
  rw [if_neg (by omega),h2,List.drop_zero,h1]
  exact ⟨rfl,rfl⟩
 ·rintro ⟨h1,h2⟩
  exact one_token h1 h2
theorem strT_bad : ∀ (l : Txt) (m p : Nat),(strT m p l).e ≠ 0 → (strT m p l).n ≤ p + l.length
 | [],m,p,_ => by rw [strT.eq_def]; exact Nat.zero_le _
 | c :: r,m,p,h => by
  rw [strT_cons] at h ⊢
  by_cases h1 : (c == 34) = true
  ·rw [if_pos h1] at h; exact absurd rfl h
  rw [if_neg h1] at h ⊢
  by_cases h2 : (c < 32 || 126 < c) = true
  ·rw [if_pos h2]; exact Nat.le_add_right _ _
  rw [if_neg h2] at h ⊢
  by_cases h3 : (c == 92) = true
  ·rw [if_pos h3] at h ⊢
   cases r with
   | nil => exact Nat.le_add_right _ _
   | cons d q =>
    simp only at h ⊢
    by_cases h4 : (d == 34 || d == 92) = true
    ·rw [if_pos h4] at h ⊢
     by_cases h5 : m = 200
     ·rw [if_pos h5]; exact Nat.zero_le _
     rw [if_neg h5] at h ⊢
     have ih := strT_bad q (m + 1) (p + 2)
     generalize strT (m + 1) (p + 2) q = R at *
     unfold addC at h ⊢
     by_cases g : R.e = 0
     ·rw [if_pos g] at h; exact absurd rfl h
     ·rw [if_neg g]; have := ih g; simp; omega
    ·rw [if_neg h4]; exact Nat.le_add_right _ _
  ·rw [if_neg h3] at h ⊢
   by_cases h5 : m = 200
   ·rw [if_pos h5]; exact Nat.zero_le _
   rw [if_neg h5] at h ⊢
   have ih := strT_bad r (m + 1) (p + 1)
   generalize strT (m + 1) (p + 1) r = R at *
   unfold addC at h ⊢
   by_cases g : R.e = 0
   ·rw [if_pos g] at h; exact absurd rfl h
   ·rw [if_neg g]; have := ih g; simp; omega
theorem rd_bad {l : Txt} (h : (rdT l).e ≠ 0) : (rdT l).n ≤ l.length := by
 cases l with
 | nil => exact Nat.le_refl _
 | cons c r =>
  rw [rdT] at h ⊢
  have hs := strT_bad r 0 1
  repeat' split
  all_goals first | exact Nat.zero_le _ | skip
  all_goals simp_all
  all_goals omega
set_option linter.unusedVariables false

def pk (m p : Nat) (l : Txt) : TR := toks m (p + skipN false l) (l.drop (skipN false l))
theorem toks_pk {m p : Nat} {l : Txt} (hl : l ≠ []) (hm : m ≠ 1000) (h : (rdT l).e = 0) : toks m p l = addT [⟨(rdT l).k,(rdT l).s,(rdT l).i,p⟩] (pk (m + 1) (p + (rdT l).n) (l.drop (rdT l).n)) := by
 rw [toks_step hl hm h]
 unfold pk nxt
 rw [List.drop_drop,Nat.add_assoc]
theorem addT_e {t : List Tk} {R : TR} (h : (addT t R).e = 0) : R.e = 0 ∧ (addT t R).l = t ++ R.l := by
 unfold addT at h ⊢
 by_cases g : R.e = 0
 ·rw [if_pos g]; exact ⟨g,rfl⟩
 ·rw [if_neg g] at h; exact absurd h g
theorem addT_ok (t : List Tk) {R : TR} (h : R.e = 0) : (addT t R).e = 0 ∧ (addT t R).l = t ++ R.l := by
 unfold addT
 rw [if_pos h]
 exact ⟨rfl,rfl⟩
theorem toks_cases {m p : Nat} {l : Txt} (h : (toks m p l).e = 0) (hl : l ≠ []) : m ≠ 1000 ∧ (rdT l).e = 0 := by
 by_cases hm : m = 1000
 ·subst hm; rw [toks_full p hl] at h; cases h
 refine ⟨hm,?_⟩
 by_cases he : (rdT l).e = 0
 ·exact he
 ·rw [toks_bad hl hm he] at h; exact absurd h he
end Lex
end Go.Proofs.YtcapkeaedpabjaaGreatDoor
