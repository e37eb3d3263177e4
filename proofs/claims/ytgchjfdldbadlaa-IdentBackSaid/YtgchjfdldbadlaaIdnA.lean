/-
  Plain: names, identifiers, patterns, references. No program.
-/
namespace Go.Proofs.Ytgchjfdldbadlaa
namespace Idn

def small (c : UInt8) : Bool := decide (97 ≤ c.toNat) && decide (c.toNat ≤ 122)
def big (c : UInt8) : Bool := decide (65 ≤ c.toNat) && decide (c.toNat ≤ 90)
def digit (c : UInt8) : Bool := decide (48 ≤ c.toNat) && decide (c.toNat ≤ 57)
def tailB (c : UInt8) : Bool := small c || digit c || c == 45 || c == 95
def partB (c : UInt8) : Bool := small c || big c || digit c || c == 45 || c == 95 || c == 46 || c == 58 || c == 47
def nameB : List UInt8 → Bool
  | [] => false
  | c :: r => decide (r.length < 24) && small c && r.all tailB
def idB (l : List UInt8) : Bool := decide (1 ≤ l.length) && decide (l.length ≤ 64) && l.all partB
/-- Does it end with an asterisk? -/
def openB (l : List UInt8) : Bool := l.getLast? == some 42
def patB (l : List UInt8) : Bool := decide (1 ≤ l.length) && decide (l.length ≤ 64) && l.dropLast.all partB && (match l.getLast? with | some c => partB c || c == 42 | none => false)
def matB (p s : List UInt8) : Bool := patB p && if openB p then p.dropLast.isPrefixOf s else s == p
def covB (p q : List UInt8) : Bool := patB p && (patB q && if openB q then openB p && p.dropLast.isPrefixOf q.dropLast else matB p q)
theorem mat_open {p s : List UInt8} (ho : openB p = true) : matB p s = true ↔ patB p = true ∧ p.dropLast <+: s := by
  unfold matB
  rw [ho, Bool.and_eq_true, if_pos rfl, List.isPrefixOf_iff_prefix]
theorem mat_shut {p s : List UInt8} (ho : openB p = false) : matB p s = true ↔ patB p = true ∧ s = p := by
  unfold matB
  rw [ho, Bool.and_eq_true, if_neg (by decide), beq_iff_eq]
theorem mat_pat {p s : List UInt8} (h : matB p s = true) : patB p = true := (Bool.and_eq_true _ _ ▸ h : patB p = true ∧ _).1
theorem cov_open {p q : List UInt8} (ho : openB q = true) : covB p q = true ↔ patB p = true ∧ patB q = true ∧ openB p = true ∧ p.dropLast <+: q.dropLast := by
  unfold covB
  rw [ho, if_pos rfl]
  simp only [Bool.and_eq_true, List.isPrefixOf_iff_prefix]
theorem cov_shut {p q : List UInt8} (ho : openB q = false) : covB p q = true ↔ patB p = true ∧ patB q = true ∧ matB p q = true := by
  unfold covB
  rw [ho, if_neg (by decide)]
  simp only [Bool.and_eq_true]
theorem cov_refl (p : List UInt8) : covB p p = patB p := by
  cases hp : patB p with
  | false => simp [covB, hp]
  | true =>
    cases ho : openB p with
    | true => exact (cov_open ho).2 ⟨hp, hp, ho, List.prefix_refl _⟩
    | false => exact (cov_shut ho).2 ⟨hp, hp, (mat_shut ho).2 ⟨hp, rfl⟩⟩
/-- What a covered pattern matches is matched. -/
theorem cov_mat {p q s : List UInt8} (h : covB p q = true) (hm : matB q s = true) : matB p s = true := by
  cases hq : openB q with
  | true =>
    obtain ⟨h1, -, h3, h4⟩ := (cov_open hq).1 h
    exact (mat_open h3).2 ⟨h1, h4.trans ((mat_open hq).1 hm).2⟩
  | false =>
    obtain ⟨-, -, h3⟩ := (cov_shut hq).1 h
    obtain ⟨-, rfl⟩ := (mat_shut hq).1 hm
    exact h3
theorem cov_trans {p q r : List UInt8} (h : covB p q = true) (h2 : covB q r = true) : covB p r = true := by
  cases hr : openB r with
  | true =>
    obtain ⟨-, r2, r3, r4⟩ := (cov_open hr).1 h2
    obtain ⟨p1, -, p3, p4⟩ := (cov_open r3).1 h
    exact (cov_open hr).2 ⟨p1, r2, p3, p4.trans r4⟩
  | false =>
    obtain ⟨-, r2, r3⟩ := (cov_shut hr).1 h2
    have hp : patB p = true := by
      unfold covB at h
      exact (Bool.and_eq_true _ _ ▸ h : patB p = true ∧ _).1
    exact (cov_shut hr).2 ⟨hp, r2, cov_mat h r3⟩
/-- What is not covered matches one of two strings that the other one does not. -/
def one (q : List UInt8) : List UInt8 := if openB q then q.dropLast else q
def two (q : List UInt8) : List UInt8 := if openB q then q.dropLast ++ [126] else q
theorem mat_one {q : List UInt8} (h : patB q = true) : matB q (one q) = true ∧ matB q (two q) = true := by
  unfold one two
  cases ho : openB q with
  | true => exact ⟨(mat_open ho).2 ⟨h, List.prefix_refl _⟩, (mat_open ho).2 ⟨h, List.prefix_append _ _⟩⟩
  | false => exact ⟨(mat_shut ho).2 ⟨h, rfl⟩, (mat_shut ho).2 ⟨h, rfl⟩⟩
theorem not_cov {p q : List UInt8} (hp : patB p = true) (hq : patB q = true) (h : covB p q = false) : ¬ (matB p (one q) = true ∧ matB p (two q) = true) := fun ⟨h1, h2⟩ => by
  unfold one at h1
  unfold two at h2
  cases ho : openB q with
  | false =>
    rw [ho, if_neg (by decide)] at h1
    rw [(cov_shut ho).2 ⟨hp, hq, h1⟩] at h
    cases h
  | true =>
    rw [ho, if_pos rfl] at h1 h2
    cases hpo : openB p with
    | true =>
      rw [(cov_open ho).2 ⟨hp, hq, hpo, ((mat_open hpo).1 h1).2⟩] at h
      cases h
    | false =>
      have e1 := ((mat_shut hpo).1 h1).2
      have e2 := ((mat_shut hpo).1 h2).2
      have := congrArg List.length (e1.trans e2.symm)
      simp at this

/-- A reference, and its parts. -/
def refL (t f q : List UInt8) : List UInt8 := t ++ 47 :: (f ++ 58 :: q)
def refB (ver : List UInt8 → Bool) (t f q : List UInt8) : Bool := nameB t && nameB f && (nameB q || ver q)
theorem name_not {l : List UInt8} (h : nameB l = true) {c : UInt8} (hc : c = 47 ∨ c = 58) : c ∉ l := by
  have hs : ∀ x : UInt8, small x = true → x ≠ 47 ∧ x ≠ 58 := fun x hx => by
    simp only [small, Bool.and_eq_true, decide_eq_true_eq] at hx
    constructor <;> (rintro rfl; revert hx; decide)
  have hd : ∀ x : UInt8, digit x = true → x ≠ 47 ∧ x ≠ 58 := fun x hx => by
    simp only [digit, Bool.and_eq_true, decide_eq_true_eq] at hx
    constructor <;> (rintro rfl; revert hx; decide)
  have ht : ∀ x : UInt8, tailB x = true → x ≠ 47 ∧ x ≠ 58 := fun x hx => by
    simp only [tailB, Bool.or_eq_true, beq_iff_eq] at hx
    rcases hx with ((hx | hx) | rfl) | rfl
    · exact hs x hx
    · exact hd x hx
    · decide
    · decide
  cases l with
  | nil => simp
  | cons x r =>
    simp only [nameB, Bool.and_eq_true, List.all_eq_true] at h
    intro hm
    rcases List.mem_cons.1 hm with rfl | hm
    · have := hs c h.1.2
      rcases hc with e | e
      · exact this.1 e
      · exact this.2 e
    · have := ht c (h.2 c hm)
      rcases hc with e | e
      · exact this.1 e
      · exact this.2 e
/-- Where a byte first occurs, or the length. -/
def firstAt (c : UInt8) : List UInt8 → Nat
  | [] => 0
  | x :: r => if x = c then 0 else firstAt c r + 1
theorem firstAt_le (c : UInt8) : ∀ l : List UInt8, firstAt c l ≤ l.length
  | [] => Nat.le_refl _
  | x :: r => by
    have := firstAt_le c r
    unfold firstAt
    split
    · exact Nat.zero_le _
    · simp; omega
theorem firstAt_app {c : UInt8} : ∀ {l : List UInt8} (r : List UInt8), c ∉ l → firstAt c (l ++ c :: r) = l.length
  | [], r, _ => by simp [firstAt]
  | x :: l, r, h => by
    have h1 : x ≠ c := fun e => h (by rw [e]; exact List.mem_cons_self ..)
    have h2 : c ∉ l := fun e => h (List.mem_cons_of_mem _ e)
    rw [List.cons_append, firstAt, if_neg h1, firstAt_app r h2]
    rfl
theorem firstAt_get {c : UInt8} : ∀ {l : List UInt8}, firstAt c l < l.length → l = l.take (firstAt c l) ++ c :: l.drop (firstAt c l + 1)
  | [], h => absurd h (by simp)
  | x :: r, h => by
    by_cases e : x = c
    · subst e
      simp [firstAt]
    · have e2 : firstAt c (x :: r) = firstAt c r + 1 := by rw [firstAt, if_neg e]
      rw [e2] at h ⊢
      have := firstAt_get (l := r) (by simp at h; omega)
      rw [List.take_succ_cons, List.drop_succ_cons, List.cons_append, ← this]
theorem take_split {l : List UInt8} {a b : Nat} {c : UInt8} (hab : a < b) (hb : b < l.length) (g : l = l.take a ++ c :: l.drop (a + 1)) : l.take b = l.take a ++ c :: (l.take b).drop (a + 1) := by
  have hc : l[a]? = some c := by
    have h := congrArg (fun x => x[a]?) g
    simp only [List.getElem?_append_right (show (l.take a).length ≤ a by rw [List.length_take]; omega), List.length_take, show a - min a l.length = 0 by omega, List.getElem?_cons_zero] at h
    exact h
  have hlt : a < (l.take b).length := by rw [List.length_take]; omega
  have e1 := List.take_append_drop a (l.take b)
  rw [List.take_take, Nat.min_eq_left (by omega), List.drop_eq_getElem_cons hlt] at e1
  have e2 : (l.take b)[a] = c := by
    rw [List.getElem_take]
    exact Option.some.inj ((List.getElem?_eq_getElem (by omega)).symm.trans hc)
  rw [e2] at e1
  exact e1.symm
/-- The parts of a text, if it is a reference. -/
def prs (ver : List UInt8 → Bool) (l : List UInt8) : Option (List UInt8 × List UInt8 × List UInt8) :=
  if firstAt 47 l < l.length ∧ firstAt 58 l < l.length ∧ firstAt 47 l ≤ firstAt 58 l then
    if refB ver (l.take (firstAt 47 l)) ((l.take (firstAt 58 l)).drop (firstAt 47 l + 1)) (l.drop (firstAt 58 l + 1)) then
      some (l.take (firstAt 47 l), (l.take (firstAt 58 l)).drop (firstAt 47 l + 1), l.drop (firstAt 58 l + 1))
    else none
  else none
theorem prs_ref {ver : List UInt8 → Bool} {t f q : List UInt8} (h : refB ver t f q = true) : prs ver (refL t f q) = some (t, f, q) := by
  have h' := h
  simp only [refB, Bool.and_eq_true] at h'
  have t1 := name_not h'.1.1 (Or.inl rfl : (47 : UInt8) = 47 ∨ (47 : UInt8) = 58)
  have t2 := name_not h'.1.1 (Or.inr rfl : (58 : UInt8) = 47 ∨ (58 : UInt8) = 58)
  have f2 := name_not h'.1.2 (Or.inr rfl : (58 : UInt8) = 47 ∨ (58 : UInt8) = 58)
  have e1 : firstAt 47 (refL t f q) = t.length := firstAt_app _ t1
  have er : refL t f q = (t ++ 47 :: f) ++ 58 :: q := by simp [refL]
  have e2 : firstAt 58 (refL t f q) = t.length + 1 + f.length := by
    rw [er, firstAt_app q (by
      intro hm
      rcases List.mem_append.1 hm with hm | hm
      · exact t2 hm
      · rcases List.mem_cons.1 hm with hm | hm
        · exact absurd hm (by decide)
        · exact f2 hm)]
    simp
    omega
  have hl : (refL t f q).length = t.length + 1 + f.length + 1 + q.length := by simp [refL]; omega
  have p1 : (refL t f q).take t.length = t := by simp [refL]
  have p2 : ((refL t f q).take (t.length + 1 + f.length)).drop (t.length + 1) = f := by
    rw [er, List.take_append_of_le_length (by simp; omega), List.take_of_length_le (by simp; omega)]
    rw [show t ++ 47 :: f = (t ++ [47]) ++ f by simp, List.drop_left' (by simp)]
  have p3 : (refL t f q).drop (t.length + 1 + f.length + 1) = q := by
    rw [er, show (t ++ 47 :: f) ++ 58 :: q = ((t ++ 47 :: f) ++ [58]) ++ q by simp, List.drop_left' (by simp; omega)]
  unfold prs
  rw [e1, e2, if_pos (by omega), p1, p2, p3, if_pos h]
theorem ref_prs {ver : List UInt8 → Bool} {l t f q : List UInt8} (h : prs ver l = some (t, f, q)) : refB ver t f q = true ∧ refL t f q = l := by
  unfold prs at h
  split at h
  · rename_i hc
    split at h
    · rename_i hr
      simp only [Option.some.injEq, Prod.mk.injEq] at h
      obtain ⟨rfl, rfl, rfl⟩ := h
      refine ⟨hr, ?_⟩
      have g1 := firstAt_get hc.2.1
      have hne : firstAt 47 l ≠ firstAt 58 l := fun e => by
        have g2 := firstAt_get hc.1
        rw [e] at g2
        have h3 := congrArg (fun x => x[firstAt 58 l]?) (g2.symm.trans g1)
        simp only [List.getElem?_append_right (show (l.take (firstAt 58 l)).length ≤ firstAt 58 l by rw [List.length_take]; omega), List.length_take, show firstAt 58 l - min (firstAt 58 l) l.length = 0 by omega, List.getElem?_cons_zero] at h3
        exact absurd h3 (by decide)
      have g2 := firstAt_get hc.1
      have k1 : (l.take (firstAt 58 l)) = l.take (firstAt 47 l) ++ 47 :: (l.take (firstAt 58 l)).drop (firstAt 47 l + 1) := take_split (by omega) hc.2.1 g2
      unfold refL
      rw [show l.take (firstAt 47 l) ++ 47 :: ((l.take (firstAt 58 l)).drop (firstAt 47 l + 1) ++ 58 :: l.drop (firstAt 58 l + 1)) = (l.take (firstAt 47 l) ++ 47 :: (l.take (firstAt 58 l)).drop (firstAt 47 l + 1)) ++ 58 :: l.drop (firstAt 58 l + 1) by simp, ← k1]
      exact g1.symm
    · cases h
  · cases h
end Idn
end Go.Proofs.Ytgchjfdldbadlaa
