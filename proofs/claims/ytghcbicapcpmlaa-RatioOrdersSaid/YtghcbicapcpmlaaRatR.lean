/-
  Plain mathematics: the order of fractions, and what addition, multiplication and rounding do to it. No program.
-/
import Derived.Test.YtghcbicapcpmlaaRatM
namespace Go.Proofs.Ytghcbicapcpmlaa
namespace Rat2

theorem cmp_bd (a b c d : Int) : -1 ≤ cmp a b c d ∧ cmp a b c d ≤ 1 := by
  unfold cmp
  split
  · split
    · omega
    · split <;> omega
  · omega
theorem cmp_true {a b c d : Int} (h1 : vr a b = true) (h2 : vr c d = true) : cmp a b c d = if a * d < c * b then -1 else if a * d = c * b then 0 else 1 := by
  unfold cmp; rw [h1, h2]; rfl
theorem cmp_flip {a b c d : Int} (h1 : vr a b = true) (h2 : vr c d = true) : cmp c d a b = -cmp a b c d := by
  rw [cmp_true h1 h2, cmp_true h2 h1]
  by_cases h : a * d < c * b
  · rw [if_pos h, if_neg (by omega), if_neg (by omega)]; rfl
  · rw [if_neg h]
    by_cases e : a * d = c * b
    · rw [if_pos e, if_neg (by omega), if_pos e.symm]; rfl
    · rw [if_neg e, if_pos (by omega)]
theorem cmp_zero {a b c d : Int} (h1 : vr a b = true) (h2 : vr c d = true) : cmp a b c d = 0 ↔ (a = c ∧ b = d) := by
  rw [cmp_true h1 h2]
  constructor
  · intro h
    split at h
    · omega
    · split at h
      · exact low_unique h1 h2 (by assumption)
      · omega
  · rintro ⟨rfl, rfl⟩
    rw [if_neg (by omega), if_pos rfl]
/-- A product with a positive factor has the sign of the other one. -/
theorem sign_mul {k x : Int} (hk : 0 < k) : (k * x < 0 ↔ x < 0) ∧ (k * x = 0 ↔ x = 0) := by
  refine ⟨⟨fun h => ?_, fun h => ?_⟩, ⟨fun h => ?_, fun h => ?_⟩⟩
  · exact Int.not_le.1 fun g => absurd (Int.mul_nonneg (Int.le_of_lt hk) g) (by omega)
  · have := Int.mul_pos hk (by omega : 0 < -x)
    rw [Int.mul_neg] at this
    omega
  · rcases Int.mul_eq_zero.1 h with h | h
    · omega
    · exact h
  · rw [h, Int.mul_zero]
/-- Two differences with one sign compare alike. -/
theorem cmp_same_sign {a b c d p q r s k l : Int} (h1 : vr a b = true) (h2 : vr c d = true) (h3 : vr p q = true) (h4 : vr r s = true) (hk : 0 < k) (hl : 0 < l)
    (h : k * (p * s - r * q) = l * (a * d - c * b)) : cmp p q r s = cmp a b c d := by
  rw [cmp_true h1 h2, cmp_true h3 h4]
  have s1 := sign_mul (x := p * s - r * q) hk
  have s2 := sign_mul (x := a * d - c * b) hl
  rw [h] at s1
  by_cases e1 : a * d < c * b
  · have : p * s - r * q < 0 := s1.1.1 (s2.1.2 (by omega))
    rw [if_pos e1, if_pos (by omega)]
  · by_cases e2 : a * d = c * b
    · have : p * s - r * q = 0 := s1.2.1 (s2.2.2 (by omega))
      rw [if_neg e1, if_pos e2, if_neg (by omega), if_pos (by omega)]
    · have n1 : ¬ p * s - r * q < 0 := fun g => e1 (by have := s2.1.1 (s1.1.2 g); omega)
      have n2 : ¬ p * s - r * q = 0 := fun g => e2 (by have := s2.2.1 (s1.2.2 g); omega)
      rw [if_neg e1, if_neg e2, if_neg (by omega), if_neg (by omega)]
/-- What the reduction returns without an error: a valid ratio with the same quotient. -/
theorem red_ok {n d : Int} (hd : 0 < d) (h : redE n d = 0) : vr (redN n d) (redD n d) = true ∧ redN n d * d = n * redD n d := by
  unfold redE at h
  unfold redN redD
  cases hv : vr (lowN n d) (lowD n d)
  · rw [hv] at h; simp at h
  · rw [if_pos rfl, if_pos rfl]
    refine ⟨hv, ?_⟩
    have hg := gcd_pos (a := n) (b := d) (by omega)
    unfold lowN lowD
    rw [if_neg (by omega), if_neg (by omega)]
    have e1 := Int.ediv_mul_cancel (gcd_dvd1 n d)
    have e2 := Int.ediv_mul_cancel (gcd_dvd2 n d)
    generalize gcd n d = g at *
    generalize n / g = x at *
    generalize d / g = y at *
    rw [← e1, ← e2]
    grind
theorem add_order {a1 a2 b1 b2 c1 c2 : Int} (ha : vr a1 a2 = true) (hb : vr b1 b2 = true) (hc : vr c1 c2 = true)
    (hx : redE (a1 * c2 + c1 * a2) (a2 * c2) = 0) (hy : redE (b1 * c2 + c1 * b2) (b2 * c2) = 0) :
    cmp (redN (a1 * c2 + c1 * a2) (a2 * c2)) (redD (a1 * c2 + c1 * a2) (a2 * c2)) (redN (b1 * c2 + c1 * b2) (b2 * c2)) (redD (b1 * c2 + c1 * b2) (b2 * c2)) = cmp a1 a2 b1 b2 := by
  obtain ⟨pa, _⟩ := vr_true ha
  obtain ⟨pb, _⟩ := vr_true hb
  obtain ⟨pc, _⟩ := vr_true hc
  have p1 : 0 < a2 * c2 := Int.mul_pos (by omega) (by omega)
  have p2 : 0 < b2 * c2 := Int.mul_pos (by omega) (by omega)
  obtain ⟨v1, e1⟩ := red_ok p1 hx
  obtain ⟨v2, e2⟩ := red_ok p2 hy
  obtain ⟨q1, _⟩ := vr_true v1
  obtain ⟨q2, _⟩ := vr_true v2
  generalize redN (a1 * c2 + c1 * a2) (a2 * c2) = p at *
  generalize redD (a1 * c2 + c1 * a2) (a2 * c2) = q at *
  generalize redN (b1 * c2 + c1 * b2) (b2 * c2) = r at *
  generalize redD (b1 * c2 + c1 * b2) (b2 * c2) = s at *
  refine cmp_same_sign ha hb v1 v2 (k := (a2 * c2) * (b2 * c2)) (l := (q * s) * (c2 * c2)) (Int.mul_pos p1 p2) (Int.mul_pos (Int.mul_pos (by omega) (by omega)) (Int.mul_pos (by omega) (by omega))) ?_
  grind
theorem sub_order {a1 a2 b1 b2 : Int} (ha : vr a1 a2 = true) (hb : vr b1 b2 = true) (hx : redE (a1 * b2 - b1 * a2) (a2 * b2) = 0) :
    cmp (redN (a1 * b2 - b1 * a2) (a2 * b2)) (redD (a1 * b2 - b1 * a2) (a2 * b2)) 0 1 = cmp a1 a2 b1 b2 := by
  obtain ⟨pa, _⟩ := vr_true ha
  obtain ⟨pb, _⟩ := vr_true hb
  have p1 : 0 < a2 * b2 := Int.mul_pos (by omega) (by omega)
  obtain ⟨v1, e1⟩ := red_ok p1 hx
  obtain ⟨q1, _⟩ := vr_true v1
  generalize redN (a1 * b2 - b1 * a2) (a2 * b2) = p at *
  generalize redD (a1 * b2 - b1 * a2) (a2 * b2) = q at *
  refine cmp_same_sign ha hb v1 (by decide +kernel) (k := a2 * b2) (l := q) p1 (by omega) ?_
  grind
theorem cmp_trans {a1 a2 b1 b2 c1 c2 : Int} (ha : vr a1 a2 = true) (hb : vr b1 b2 = true) (hc : vr c1 c2 = true) (h1 : cmp a1 a2 b1 b2 ≤ 0) (h2 : cmp b1 b2 c1 c2 ≤ 0) : cmp a1 a2 c1 c2 ≤ 0 := by
  obtain ⟨pa, _⟩ := vr_true ha
  obtain ⟨pb, _⟩ := vr_true hb
  obtain ⟨pc, _⟩ := vr_true hc
  have k1 : a1 * b2 ≤ b1 * a2 := by
    rw [cmp_true ha hb] at h1
    split at h1
    · omega
    · split at h1 <;> omega
  have k2 : b1 * c2 ≤ c1 * b2 := by
    rw [cmp_true hb hc] at h2
    split at h2
    · omega
    · split at h2 <;> omega
  have k3 : a1 * c2 ≤ c1 * a2 := by
    have m1 : a1 * b2 * c2 ≤ b1 * a2 * c2 := Int.mul_le_mul_of_nonneg_right k1 (by omega)
    have m2 : b1 * c2 * a2 ≤ c1 * b2 * a2 := Int.mul_le_mul_of_nonneg_right k2 (by omega)
    have m3 : b2 * (a1 * c2) ≤ b2 * (c1 * a2) := by grind
    exact Int.le_of_mul_le_mul_left m3 (by omega)
  rw [cmp_true ha hc]
  split
  · omega
  · split <;> omega

end Rat2
end Go.Proofs.Ytghcbicapcpmlaa
