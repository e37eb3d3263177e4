/-
  Plain mathematics: the lowest terms of a quotient that has given lowest terms; rounding. No program.
-/
import Derived.Test.YtghcbicapcpmlaaRatR
namespace Go.Proofs.Ytghcbicapcpmlaa
namespace Rat2

theorem low_is {n d x y : Int} (hd : 0 < d) (hv : vr x y = true) (h : n * y = x * d) : n / gcd n d = x ∧ d / gcd n d = y := by
  obtain ⟨y1, _, _, _, hg1⟩ := vr_true hv
  have hg := gcd_pos (a := n) (b := d) (by omega)
  have e1 := Int.ediv_mul_cancel (gcd_dvd1 n d)
  have e2 := Int.ediv_mul_cancel (gcd_dvd2 n d)
  have hdv : ∀ k, k ∣ n → k ∣ d → k ∣ gcd n d := fun k h1 h2 => Int.dvd_coe_gcd h1 h2
  generalize gcd n d = g at *
  generalize n / g = p at *
  generalize d / g = q at *
  have hpq : p * y = x * q := by
    apply Int.eq_of_mul_eq_mul_left (a := g) (by omega)
    rw [← e1, ← e2] at h
    grind
  have hq : 0 < q := by
    rcases Int.lt_trichotomy q 0 with c | c | c
    · have := Int.mul_neg_of_neg_of_pos c (by omega : 0 < g); omega
    · rw [c] at e2; omega
    · exact c
  obtain ⟨t, ht⟩ : y ∣ q := cop_dvd hg1 ⟨p, by rw [← hpq, Int.mul_comm]⟩
  have hp : p = x * t := by
    apply Int.eq_of_mul_eq_mul_left (a := y) (by omega)
    rw [ht] at hpq
    grind
  have hdiv : g * t ∣ g := hdv _ ⟨x, by rw [← e1, hp]; grind⟩ ⟨y, by rw [← e2, ht]; grind⟩
  have ht0 : 0 < t := by
    rcases Int.lt_trichotomy t 0 with c | c | c
    · have := Int.mul_neg_of_pos_of_neg (by omega : 0 < y) c; omega
    · rw [c] at ht; omega
    · exact c
  have ht1 : t = 1 := by
    have l1 := Int.le_of_dvd (by omega) hdiv
    have l2 : g * t ≤ g * 1 := by omega
    have := Int.le_of_mul_le_mul_left l2 (by omega)
    omega
  subst ht1
  exact ⟨by omega, by omega⟩
theorem red_is {n d x y : Int} (hd : d ≠ 0) (hv : vr x y = true) (h : n * y = x * d) : redN n d = x ∧ redD n d = y ∧ redE n d = 0 := by
  have hl : lowN n d = x ∧ lowD n d = y := by
    unfold lowN lowD
    by_cases c : d < 0
    · rw [if_pos c, if_pos c]
      have := low_is (n := -n) (d := -d) (by omega) hv (by grind)
      rw [gcd_neg, gcd_neg2] at this
      exact this
    · rw [if_neg c, if_neg c]
      exact low_is (by omega) hv h
  unfold redN redD redE
  rw [hl.1, hl.2, hv]
  exact ⟨rfl, rfl, rfl⟩
theorem sub_undoes {a1 a2 b1 b2 : Int} (ha : vr a1 a2 = true) (hb : vr b1 b2 = true) (hx : redE (a1 * b2 + b1 * a2) (a2 * b2) = 0) :
    vr (redN (a1 * b2 + b1 * a2) (a2 * b2)) (redD (a1 * b2 + b1 * a2) (a2 * b2)) = true ∧
    redN (redN (a1 * b2 + b1 * a2) (a2 * b2) * b2 - b1 * redD (a1 * b2 + b1 * a2) (a2 * b2)) (redD (a1 * b2 + b1 * a2) (a2 * b2) * b2) = a1 ∧
    redD (redN (a1 * b2 + b1 * a2) (a2 * b2) * b2 - b1 * redD (a1 * b2 + b1 * a2) (a2 * b2)) (redD (a1 * b2 + b1 * a2) (a2 * b2) * b2) = a2 ∧
    redE (redN (a1 * b2 + b1 * a2) (a2 * b2) * b2 - b1 * redD (a1 * b2 + b1 * a2) (a2 * b2)) (redD (a1 * b2 + b1 * a2) (a2 * b2) * b2) = 0 := by
  obtain ⟨pa, _⟩ := vr_true ha
  obtain ⟨pb, _⟩ := vr_true hb
  have p1 : 0 < a2 * b2 := Int.mul_pos (by omega) (by omega)
  obtain ⟨v1, e1⟩ := red_ok p1 hx
  obtain ⟨q1, _⟩ := vr_true v1
  generalize redN (a1 * b2 + b1 * a2) (a2 * b2) = p at *
  generalize redD (a1 * b2 + b1 * a2) (a2 * b2) = q at *
  refine ⟨v1, red_is ?_ ha ?_⟩
  · have := Int.mul_pos (by omega : 0 < q) (by omega : 0 < b2); omega
  · apply Int.eq_of_mul_eq_mul_left (a := b2) (by omega)
    grind
theorem div_undoes {a1 a2 b1 b2 : Int} (ha : vr a1 a2 = true) (hb : vr b1 b2 = true) (hz : b1 ≠ 0) (hx : redE (a1 * b1) (a2 * b2) = 0) :
    vr (redN (a1 * b1) (a2 * b2)) (redD (a1 * b1) (a2 * b2)) = true ∧
    redN (redN (a1 * b1) (a2 * b2) * b2) (redD (a1 * b1) (a2 * b2) * b1) = a1 ∧
    redD (redN (a1 * b1) (a2 * b2) * b2) (redD (a1 * b1) (a2 * b2) * b1) = a2 ∧
    redE (redN (a1 * b1) (a2 * b2) * b2) (redD (a1 * b1) (a2 * b2) * b1) = 0 := by
  obtain ⟨pa, _⟩ := vr_true ha
  obtain ⟨pb, _⟩ := vr_true hb
  have p1 : 0 < a2 * b2 := Int.mul_pos (by omega) (by omega)
  obtain ⟨v1, e1⟩ := red_ok p1 hx
  obtain ⟨q1, _⟩ := vr_true v1
  generalize redN (a1 * b1) (a2 * b2) = p at *
  generalize redD (a1 * b1) (a2 * b2) = q at *
  refine ⟨v1, red_is ?_ ha ?_⟩
  · intro h
    rcases Int.mul_eq_zero.1 h with h | h
    · omega
    · exact hz h
  · grind
/-- Rounding encloses a ratio, as closely as possible. -/
theorem round_bd {n d : Int} (hv : vr n d = true) : (flo n d * d ≤ n ∧ n ≤ cel n d * d) ∧ (-1000000000 ≤ flo n d ∧ flo n d ≤ 1000000000) ∧ (-1000000000 ≤ cel n d ∧ cel n d ≤ 1000000000)
    ∧ (cel n d - flo n d ≤ 1 ∧ ((cel n d == flo n d) == (d == 1)) = true) := by
  obtain ⟨d1, d2, n1, n2, hg⟩ := vr_true hv
  unfold flo cel
  rw [hv, if_pos rfl, if_pos rfl]
  have e : d * (n / d) + n % d = n := Int.mul_ediv_add_emod n d
  have r0 := Int.emod_nonneg n (b := d) (by omega)
  have r1 := Int.emod_lt_of_pos n (b := d) (by omega)
  have hb := abs_ediv_le (a := n) (g := d) (B := 1000000000) d1 (by omega) (by omega) (by omega)
  have hc := abs_ediv_le (a := -n) (g := d) (B := 1000000000) d1 (by omega) (by omega) (by omega)
  have hce := neg_ediv_pos (m := n) (d := d) (by omega)
  have hm : n % d = 0 ↔ d = 1 := by
    constructor
    · intro h
      have h1 : d ∣ n := Int.dvd_of_emod_eq_zero h
      have h2 : d ∣ 1 := by
        have : d ∣ gcd n d := Int.dvd_coe_gcd h1 (Int.dvd_refl d)
        rw [hg] at this
        exact this
      have := Int.le_of_dvd (by omega) h2
      omega
    · intro h
      rw [h, Int.emod_one]
  rw [hce] at hc ⊢
  generalize n / d = q at *
  generalize n % d = r at *
  have k : q * d = d * q := Int.mul_comm _ _
  by_cases hr : r = 0
  · rw [if_pos hr] at hc ⊢
    have hd := hm.1 hr
    refine ⟨⟨by omega, ?_⟩, hb, by omega, by omega, ?_⟩
    · rw [Int.neg_neg]; omega
    · subst hd; simp
  · rw [if_neg hr] at hc ⊢
    have hd : ¬ d = 1 := fun h => hr (hm.2 h)
    have k2 : -(-q - 1) = q + 1 := by omega
    rw [k2]
    have k3 : (q + 1) * d = d * q + d := by rw [Int.add_mul, Int.one_mul, k]
    refine ⟨⟨by omega, by omega⟩, hb, by omega, by omega, ?_⟩
    have f1 : (q + 1 == q) = false := by simp; omega
    have f2 : (d == 1) = false := by simpa using hd
    rw [f1, f2]
    rfl

end Rat2
end Go.Proofs.Ytghcbicapcpmlaa
