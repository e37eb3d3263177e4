/-
  Plain: identifiers with a number, and back, over a form of numbers that is a letter. No program.
-/
import Derived.Test.YtgchjfdldbadlaaIdnA
namespace Go.Proofs.Ytgchjfdldbadlaa
namespace Idn

/-- Cut at the last occurrence of a byte. -/
def cutLast (c : UInt8) : List UInt8 → Option (List UInt8 × List UInt8)
  | [] => none
  | x :: r => match cutLast c r with
    | some (a, b) => some (x :: a, b)
    | none => if x = c then some ([], r) else none
theorem cutLast_none {c : UInt8} : ∀ {l : List UInt8}, c ∉ l → cutLast c l = none
  | [], _ => rfl
  | x :: r, h => by
    have h1 : x ≠ c := fun e => h (by rw [e]; exact List.mem_cons_self ..)
    have h2 : c ∉ r := fun e => h (List.mem_cons_of_mem _ e)
    rw [cutLast, cutLast_none h2]
    exact if_neg h1
theorem cutLast_of {c : UInt8} : ∀ (a : List UInt8) {r : List UInt8}, c ∉ r → cutLast c (a ++ c :: r) = some (a, r)
  | [], r, h => by
    rw [List.nil_append, cutLast, cutLast_none h]
    exact if_pos rfl
  | x :: a, r, h => by rw [List.cons_append, cutLast, cutLast_of a h]
theorem cutLast_some {c : UInt8} : ∀ {l a r : List UInt8}, cutLast c l = some (a, r) → l = a ++ c :: r ∧ c ∉ r
  | [], a, r, h => by cases h
  | x :: t, a, r, h => by
    rw [cutLast] at h
    cases ht : cutLast c t with
    | some y =>
      obtain ⟨a', b'⟩ := y
      rw [ht] at h
      simp only [Option.some.injEq, Prod.mk.injEq] at h
      obtain ⟨rfl, rfl⟩ := h
      obtain ⟨h1, h2⟩ := cutLast_some ht
      exact ⟨by rw [List.cons_append, ← h1], h2⟩
    | none =>
      rw [ht] at h
      by_cases e : x = c
      · simp only [if_pos e, Option.some.injEq, Prod.mk.injEq] at h
        obtain ⟨rfl, rfl⟩ := h
        subst e
        refine ⟨rfl, fun hm => ?_⟩
        obtain ⟨p, q, hpq⟩ := List.append_of_mem hm
        -- a last occurrence is found
        have key : ∀ l : List UInt8, x ∈ l → cutLast x l ≠ none := by
          intro l
          induction l with
          | nil => intro h; cases h
          | cons y s ih =>
            intro h
            rw [cutLast]
            cases hs : cutLast x s with
            | some z => simp
            | none =>
              rcases List.mem_cons.1 h with rfl | h
              · simp
              · exact absurd hs (ih h)
        exact key t hm ht
      · rw [if_neg e] at h
        cases h
/-- An identifier with a number behind it, or the error. -/
def chi (fmt : Int → List UInt8) (id : List UInt8) (n : Int) : Except Int (List UInt8) :=
  if idB id = false then .error 4 else if n < 0 ∨ 1000000000000 < n then .error 2 else if 64 < (id ++ 46 :: fmt n).length then .error 3 else .ok (id ++ 46 :: fmt n)
def chiT (fmt : Int → List UInt8) (id : List UInt8) (n : Int) : List UInt8 := match chi fmt id n with | .ok c => c | .error _ => []
def chiE (fmt : Int → List UInt8) (id : List UInt8) (n : Int) : Int := match chi fmt id n with | .ok _ => 0 | .error e => e
/-- The parts of an identifier with a number. -/
def par (fmt : Int → List UInt8) (prs : List UInt8 → Option Int) (l : List UInt8) : Option (List UInt8 × Int) := match cutLast 46 l with
  | none => none
  | some (a, r) => match prs r with
    | none => none
    | some n => if chiE fmt a n = 0 ∧ chiT fmt a n = l then some (a, n) else none
theorem chi_ok {fmt : Int → List UInt8} {id c : List UInt8} {n : Int} (h : chi fmt id n = .ok c) : idB id = true ∧ 0 ≤ n ∧ n ≤ 1000000000000 ∧ c = id ++ 46 :: fmt n ∧ c.length ≤ 64 := by
  unfold chi at h
  by_cases h1 : idB id = false
  · rw [if_pos h1] at h; cases h
  rw [if_neg h1] at h
  by_cases h2 : n < 0 ∨ 1000000000000 < n
  · rw [if_pos h2] at h; cases h
  rw [if_neg h2] at h
  by_cases h3 : 64 < (id ++ 46 :: fmt n).length
  · rw [if_pos h3] at h; cases h
  rw [if_neg h3] at h
  simp only [Except.ok.injEq] at h
  subst h
  exact ⟨by simpa using h1, by omega, by omega, rfl, by omega⟩
theorem par_chi {fmt : Int → List UInt8} {prs : List UInt8 → Option Int} (hf : ∀ n, 0 ≤ n → n ≤ 1000000000000 → prs (fmt n) = some n ∧ (fmt n).all digit = true) {id c : List UInt8} {n : Int} (h : chi fmt id n = .ok c) :
    par fmt prs c = some (id, n) ∧ idB c = true := by
  obtain ⟨h1, h2, h3, h4, h5⟩ := chi_ok h
  obtain ⟨f1, f2⟩ := hf n h2 h3
  have hno : (46 : UInt8) ∉ fmt n := fun hm => absurd (List.all_eq_true.1 f2 _ hm) (by decide)
  have hc := cutLast_of id hno
  rw [← h4] at hc
  constructor
  · unfold par
    rw [hc]
    simp only [f1]
    unfold chiE chiT
    rw [h]
    exact if_pos ⟨rfl, rfl⟩
  · simp only [idB, Bool.and_eq_true, decide_eq_true_eq] at h1 ⊢
    refine ⟨⟨by rw [h4]; simp; omega, h5⟩, ?_⟩
    rw [h4, List.all_append, List.all_cons, h1.2, Bool.true_and]
    have hd : ∀ x : UInt8, digit x = true → partB x = true := fun x hx => by simp [partB, hx]
    rw [show partB 46 = true by decide, Bool.true_and, List.all_eq_true]
    exact fun x hx => hd x (List.all_eq_true.1 f2 x hx)
end Idn
end Go.Proofs.Ytgchjfdldbadlaa
