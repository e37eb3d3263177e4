/-
  Layer 7, plainly: what a text's tokens are; what text a token has.
-/
import Derived.Test.YtghjflmanldjlaaDoorNumK
namespace Go.Proofs.YtghjflmanldjlaaDoor
namespace Lex

abbrev Txt := List UInt8
def headB (c : UInt8) : Bool := (97 ≤ c && c ≤ 122) || c == 95
def digB (c : UInt8) : Bool := 48 ≤ c && c ≤ 57
def tailB (c : UInt8) : Bool := headB c || digB c
def blankB (c : UInt8) : Bool := c == 32 || c == 9 || c == 10
/-- How many bytes at the beginning a test accepts. -/
def spanN (p : UInt8 → Bool) : Txt → Nat
  | [] => 0
  | c :: r => if p c then spanN p r + 1 else 0
/-- The length of the run at the beginning. -/
def runN : Txt → Nat
  | [] => 0
  | c :: r => if headB c then spanN tailB r + 1 else 0
/-- The number of bytes of blanks and comments at the beginning (inside a comment or not). -/
def skipN : Bool → Txt → Nat
  | _, [] => 0
  | true, c :: r => skipN (c != 10) r + 1
  | false, c :: r => if blankB c then skipN false r + 1 else if c == 47 && r.head? == some 47 then skipN true r + 1 else 0
def words : List Txt := [[102, 117, 110, 99], [108, 101, 116], [105, 102], [101, 108, 115, 101], [119, 104, 105, 108, 101], [114, 101, 116, 117, 114, 110], [97, 110, 100], [111, 114], [110, 111, 116], [110, 117, 108, 108], [116, 114, 117, 101], [102, 97, 108, 115, 101]]
def wordB (s : Txt) : Bool := words.contains s
def signs : List UInt8 := [40, 41, 123, 125, 91, 93, 44, 59, 58, 61, 60, 62, 43, 45, 42, 47, 37]
def twos : List Txt := [[61, 61], [33, 61], [60, 61], [62, 61]]
def symB : Txt → Bool
  | [c] => signs.contains c
  | [c, d] => twos.contains [c, d]
  | _ => false
/-- What is read at the beginning: a token and its length; or an error and its place. -/
structure Rd where
  k : Int
  s : Txt
  i : Int
  n : Nat
  e : Int
def bad (n : Nat) (e : Int) : Rd := ⟨0, [], 0, n, e⟩
def addC (t : Txt) (R : Rd) : Rd := if R.e = 0 then ⟨R.k, t ++ R.s, R.i, R.n, 0⟩ else R
/-- The contents of a string: m of them are read, the place is p. -/
def strT (m p : Nat) : Txt → Rd
  | [] => bad 0 1
  | c :: r =>
    if c == 34 then ⟨4, [], 0, p + 1, 0⟩
    else if c < 32 || 126 < c then bad p 1
    else if c == 92 then
      match r with
      | [] => bad p 1
      | d :: q => if d == 34 || d == 92 then (if m = 200 then bad 0 3 else addC [d] (strT (m + 1) (p + 2) q)) else bad p 1
    else if m = 200 then bad 0 3 else addC [c] (strT (m + 1) (p + 1) r)
theorem strT_cons (m p : Nat) (c : UInt8) (r : Txt) : strT m p (c :: r) = if c == 34 then ⟨4, [], 0, p + 1, 0⟩ else if c < 32 || 126 < c then bad p 1 else if c == 92 then
      match r with
      | [] => bad p 1
      | d :: q => if d == 34 || d == 92 then (if m = 200 then bad 0 3 else addC [d] (strT (m + 1) (p + 2) q)) else bad p 1
    else if m = 200 then bad 0 3 else addC [c] (strT (m + 1) (p + 1) r) := by
  conv => lhs; rw [strT.eq_def]
  cases r <;> rfl
def symN : Txt → Nat
  | [] => 0
  | [c] => if symB [c] then 1 else 0
  | c :: d :: _ => if symB [c, d] then 2 else if symB [c] then 1 else 0
/-- The token at the beginning of a text that begins with no blank and no comment. -/
def rdT : Txt → Rd
  | [] => bad 0 1
  | c :: r =>
    if headB c then (if 24 < runN (c :: r) then bad 0 3 else ⟨if wordB ((c :: r).take (runN (c :: r))) then 2 else 1, (c :: r).take (runN (c :: r)), 0, runN (c :: r), 0⟩)
    else if digB c then (if Num.parE ((c :: r).take (spanN digB (c :: r))) = 0 then ⟨3, [], Num.parV ((c :: r).take (spanN digB (c :: r))), spanN digB (c :: r), 0⟩ else bad 0 (Num.parE ((c :: r).take (spanN digB (c :: r)))))
    else if c == 34 then strT 0 1 r
    else if c == 64 then (if runN r = 0 then bad 0 1 else if 24 < runN r then bad 0 3 else ⟨6, r.take (runN r), 0, runN r + 1, 0⟩)
    else if symN (c :: r) = 0 then bad 0 1 else ⟨5, (c :: r).take (symN (c :: r)), 0, symN (c :: r), 0⟩
/-- A token. -/
structure Tk where
  k : Int
  s : Txt
  i : Int
  a : Int
structure TR where
  l : List Tk
  p : Nat
  e : Int
def addT (l : List Tk) (R : TR) : TR := if R.e = 0 then ⟨l ++ R.l, R.p, 0⟩ else R
/-- What text a token has, if it is one. -/
def quo (s : Txt) : Txt := s.flatMap fun c => if c == 34 || c == 92 then [92, c] else [c]
def wrt (t : Tk) : Txt := if t.k = 1 ∨ t.k = 2 ∨ t.k = 5 then t.s else if t.k = 3 then Num.fmtL t.i else if t.k = 4 then 34 :: (quo t.s ++ [34]) else if t.k = 6 then 64 :: t.s else []
def wholeB (s : Txt) : Bool := decide (1 ≤ s.length) && decide (s.length ≤ 24) && runN s == s.length
def printB (c : UInt8) : Bool := 32 ≤ c && c ≤ 126
def okT (t : Tk) : Bool :=
  if t.k = 1 then t.i == 0 && (wholeB t.s && !wordB t.s) else if t.k = 2 then t.i == 0 && wordB t.s else if t.k = 5 then t.i == 0 && symB t.s else if t.k = 6 then t.i == 0 && wholeB t.s
  else if t.k = 3 then t.s.isEmpty && (decide (0 ≤ t.i) && decide (t.i ≤ 1000000000000)) else if t.k = 4 then t.i == 0 && (t.s.all printB && decide (t.s.length ≤ 200)) else false
/-- What may follow a token's text. -/
def fitB (t : Tk) (c : UInt8) : Bool := if t.k = 1 ∨ t.k = 2 ∨ t.k = 6 then !tailB c else if t.k = 3 then !digB c else if t.k = 5 then !symB (t.s ++ [c]) else true

theorem run_cons (c : UInt8) (r : Txt) : runN (c :: r) = if headB c then spanN tailB r + 1 else 0 := rfl
theorem span_le (p : UInt8 → Bool) : ∀ l, spanN p l ≤ l.length
  | [] => Nat.le_refl _
  | c :: r => by have := span_le p r; unfold spanN; split <;> simp <;> omega
theorem run_le : ∀ l, runN l ≤ l.length
  | [] => Nat.le_refl _
  | c :: r => by have := span_le tailB r; rw [run_cons]; split <;> simp <;> omega
theorem span_app (p : UInt8 → Bool) : ∀ (l r : Txt), l.all p = true → (∀ c, r.head? = some c → p c = false) → spanN p (l ++ r) = l.length
  | [], [], _, _ => rfl
  | [], c :: r, _, h => by rw [List.nil_append, spanN, h c rfl]; rfl
  | c :: l, r, h1, h2 => by
    rw [List.all_cons, Bool.and_eq_true] at h1
    rw [List.cons_append, spanN, if_pos h1.1, span_app p l r h1.2 h2]; rfl
theorem span_all (p : UInt8 → Bool) : ∀ (l : Txt), (l.take (spanN p l)).all p = true ∧ ∀ c, (l.drop (spanN p l)).head? = some c → p c = false
  | [] => ⟨rfl, fun c h => by cases h⟩
  | c :: r => by
    unfold spanN
    by_cases h : p c = true
    · rw [if_pos h]
      obtain ⟨h1, h2⟩ := span_all p r
      exact ⟨by rw [List.take_succ_cons, List.all_cons, h, h1]; rfl, by rw [List.drop_succ_cons]; exact h2⟩
    · rw [if_neg h]
      exact ⟨rfl, fun d hd => by simp at hd; subst hd; simpa using h⟩
theorem span_eq (p : UInt8 → Bool) : ∀ (l : Txt), l.all p = true → spanN p l = l.length := fun l h => by
  have := span_app p l [] h (fun c hc => by cases hc)
  rwa [List.append_nil] at this
theorem run_app (l r : Txt) (h : runN l = l.length) (h0 : l ≠ []) (hr : ∀ c, r.head? = some c → tailB c = false) : runN (l ++ r) = l.length := by
  cases l with
  | nil => exact absurd rfl h0
  | cons c q =>
    rw [run_cons] at h
    by_cases hc : headB c = true
    · rw [if_pos hc] at h
      have e : spanN tailB q = q.length := by simp at h; omega
      have hq : q.all tailB = true := by have := (span_all tailB q).1; rwa [e, List.take_length] at this
      rw [List.cons_append, run_cons, if_pos hc, span_app tailB q r hq hr]; rfl
    · rw [if_neg hc] at h; simp at h
theorem run_run (l : Txt) : runN (l.take (runN l)) = runN l ∧ ∀ c, 0 < runN l → (l.drop (runN l)).head? = some c → tailB c = false := by
  cases l with
  | nil => exact ⟨rfl, fun c h => absurd h (Nat.lt_irrefl 0)⟩
  | cons c q =>
    rw [run_cons]
    by_cases hc : headB c = true
    · rw [if_pos hc]
      obtain ⟨h1, h2⟩ := span_all tailB q
      refine ⟨?_, fun d _ hd => h2 d (by rwa [List.drop_succ_cons] at hd)⟩
      rw [List.take_succ_cons]
      show (if headB c then spanN tailB (q.take (spanN tailB q)) + 1 else 0) = _
      rw [if_pos hc, span_eq tailB _ h1, List.length_take, Nat.min_eq_left (span_le _ _)]
    · rw [if_neg hc]
      exact ⟨rfl, fun d h => absurd h (Nat.lt_irrefl 0)⟩
theorem blank_not {c : UInt8} (h : blankB c = true) : tailB c = false ∧ digB c = false ∧ headB c = false := by
  unfold blankB at h
  have : c = 32 ∨ c = 9 ∨ c = 10 := by simpa [or_assoc] using h
  rcases this with rfl | rfl | rfl <;> decide
/-- A blank may follow every token. -/
theorem fit_blank (t : Tk) {c : UInt8} (h : blankB c = true) : fitB t c = true := by
  obtain ⟨h1, h2, h3⟩ := blank_not h
  unfold fitB
  split
  · rw [h1]; rfl
  split
  · rw [h2]; rfl
  split
  · have hc : c = 32 ∨ c = 9 ∨ c = 10 := by unfold blankB at h; simpa [or_assoc] using h
    cases hs : t.s with
    | nil => rcases hc with rfl | rfl | rfl <;> decide
    | cons d q =>
      cases q with
      | nil =>
        show (!twos.contains [d, c]) = true
        rcases hc with rfl | rfl | rfl <;> simp [twos]
      | cons d2 q2 =>
        cases q2 <;> rfl
  · rfl
end Lex
end Go.Proofs.YtghjflmanldjlaaDoor
