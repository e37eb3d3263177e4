/-
  Plain mathematics of fractions: greatest common divisors, lowest terms. No program.
-/
import Derived.Lib.Hide
namespace Go.Proofs.Ytghcbicapcpmlaa
namespace Rat2

/-- The greatest common divisor of two integers, as an integer. -/
def gcd (a b : Int) : Int := (Int.gcd a b : Int)
theorem gcd_nonneg (a b : Int) : 0 ≤ gcd a b := Int.natCast_nonneg _
theorem gcd_step (a b : Int) : gcd b (a.tmod b) = gcd a b := by
  unfold gcd Int.gcd
  rw [Int.natAbs_tmod, Nat.gcd_comm b.natAbs, ← Nat.gcd_rec, Nat.gcd_comm]
theorem gcd_zero (a : Int) : gcd a 0 = max a (-a) := by
  unfold gcd Int.gcd
  simp
  omega
theorem gcd_abs (a b : Int) : gcd (if a < 0 then -a else a) b = gcd a b := by
  unfold gcd
  split
  · rw [Int.neg_gcd]
  · rfl
theorem gcd_neg (a b : Int) : gcd (-a) b = gcd a b := by unfold gcd; rw [Int.neg_gcd]
theorem gcd_neg2 (a b : Int) : gcd a (-b) = gcd a b := by unfold gcd; rw [Int.gcd_neg]
theorem gcd_pos {a b : Int} (h : b ≠ 0) : 1 ≤ gcd a b := by
  have : 0 < Int.gcd a b := Int.gcd_pos_of_ne_zero_right a h
  unfold gcd; omega
theorem gcd_le {a b : Int} (h : 0 < b) : gcd a b ≤ b := by
  have := Int.gcd_le_right a h
  unfold gcd; exact this
theorem gcd_dvd1 (a b : Int) : gcd a b ∣ a := Int.gcd_dvd_left a b
theorem gcd_dvd2 (a b : Int) : gcd a b ∣ b := Int.gcd_dvd_right a b

theorem tmod_lt_abs (a b : Int) (h : b ≠ 0) : (a.tmod b).natAbs < b.natAbs := by
  rw [Int.natAbs_tmod]
  exact Nat.mod_lt _ (by omega)

/-- A valid ratio. -/
def vr (n d : Int) : Bool := decide (1 ≤ d ∧ d ≤ 1000000 ∧ -1000000000 ≤ n ∧ n ≤ 1000000000 ∧ gcd n d = 1)
theorem vr_true {n d : Int} (h : vr n d = true) : 1 ≤ d ∧ d ≤ 1000000 ∧ -1000000000 ≤ n ∧ n ≤ 1000000000 ∧ gcd n d = 1 := of_decide_eq_true h
theorem vr_of {n d : Int} (h1 : 1 ≤ d) (h2 : d ≤ 1000000) (h3 : -1000000000 ≤ n) (h4 : n ≤ 1000000000) (h5 : gcd n d = 1) : vr n d = true := decide_eq_true ⟨h1, h2, h3, h4, h5⟩
theorem vr_in {n d : Int} (h1 : 1 ≤ d) (h2 : d ≤ 1000000) (h3 : -1000000000 ≤ n) (h4 : n ≤ 1000000000) : vr n d = (gcd n d == 1) := by
  unfold vr
  simp only [h1, h2, h3, h4, true_and]
  rfl
theorem vr_out {n d : Int} (h : ¬ (1 ≤ d ∧ d ≤ 1000000 ∧ -1000000000 ≤ n ∧ n ≤ 1000000000)) : vr n d = false := by
  unfold vr
  apply decide_eq_false
  intro g
  exact h ⟨g.1, g.2.1, g.2.2.1, g.2.2.2.1⟩

/-- The numerator and the denominator in lowest terms, the denominator positive. -/
def lowN (n d : Int) : Int := (if d < 0 then -n else n) / gcd n d
def lowD (n d : Int) : Int := (if d < 0 then -d else d) / gcd n d
/-- What the reduction answers. -/
def redN (n d : Int) : Int := if vr (lowN n d) (lowD n d) then lowN n d else 0
def redD (n d : Int) : Int := if vr (lowN n d) (lowD n d) then lowD n d else 0
def redE (n d : Int) : Int := if vr (lowN n d) (lowD n d) then 0 else 8

theorem tdiv_dvd {a g : Int} (h : g ∣ a) : a.tdiv g = a / g := Int.tdiv_eq_ediv_of_dvd h
theorem lowN_code {n d : Int} : n.tdiv (if d < 0 then -gcd n d else gcd n d) = lowN n d := by
  unfold lowN
  split
  · rw [Int.tdiv_neg, tdiv_dvd (gcd_dvd1 n d), Int.neg_ediv_of_dvd (gcd_dvd1 n d)]
  · rw [tdiv_dvd (gcd_dvd1 n d)]
theorem lowD_code {n d : Int} : d.tdiv (if d < 0 then -gcd n d else gcd n d) = lowD n d := by
  unfold lowD
  split
  · rw [Int.tdiv_neg, tdiv_dvd (gcd_dvd2 n d), Int.neg_ediv_of_dvd (gcd_dvd2 n d)]
  · rw [tdiv_dvd (gcd_dvd2 n d)]
theorem abs_ediv_le {a g B : Int} (hg : 1 ≤ g) (h1 : -B ≤ a) (h2 : a ≤ B) (hB : 0 ≤ B) : -B ≤ a / g ∧ a / g ≤ B := by
  constructor
  · apply (Int.le_ediv_iff_mul_le (by omega)).2
    have : -B * g ≤ -B := by
      have := Int.mul_le_mul_of_nonneg_left hg hB
      rw [Int.neg_mul]
      omega
    omega
  · by_cases h : 0 ≤ a
    · exact Int.le_trans (Int.ediv_le_self _ h) h2
    · have : a / g < 0 := Int.ediv_neg_of_neg_of_pos (by omega) (by omega)
      omega
theorem low_bd {n d : Int} (hd : d ≠ 0) (h1 : -4000000000000000000 ≤ n) (h2 : n ≤ 4000000000000000000) (h3 : -4000000000000000000 ≤ d) (h4 : d ≤ 4000000000000000000) :
    (-4000000000000000000 ≤ lowN n d ∧ lowN n d ≤ 4000000000000000000) ∧ (-4000000000000000000 ≤ lowD n d ∧ lowD n d ≤ 4000000000000000000) := by
  have hg := gcd_pos (a := n) hd
  unfold lowN lowD
  constructor
  · split <;> exact abs_ediv_le hg (by omega) (by omega) (by omega)
  · split <;> exact abs_ediv_le hg (by omega) (by omega) (by omega)

/-- The comparison of two valid ratios. -/
def cmp (a b c d : Int) : Int := if vr a b && vr c d then (if a * d < c * b then -1 else if a * d = c * b then 0 else 1) else 0

theorem cop_dvd {n d k : Int} (hg : gcd n d = 1) (h : d ∣ n * k) : d ∣ k := by
  unfold gcd Int.gcd at hg
  have hc : Nat.Coprime d.natAbs n.natAbs := by
    unfold Nat.Coprime
    rw [Nat.gcd_comm]
    omega
  have h2 : d.natAbs ∣ n.natAbs * k.natAbs := by
    rw [← Int.natAbs_mul]
    exact Int.natAbs_dvd_natAbs.2 h
  exact Int.natAbs_dvd_natAbs.1 (hc.dvd_of_dvd_mul_left h2)
/-- Lowest terms are unique. -/
theorem low_unique {a b c d : Int} (h1 : vr a b = true) (h2 : vr c d = true) (h : a * d = c * b) : a = c ∧ b = d := by
  obtain ⟨b1, _, _, _, g1⟩ := vr_true h1
  obtain ⟨d1, _, _, _, g2⟩ := vr_true h2
  have e1 : b ∣ d := cop_dvd g1 ⟨c, by rw [h, Int.mul_comm]⟩
  have e2 : d ∣ b := cop_dvd g2 ⟨a, by rw [← h, Int.mul_comm]⟩
  have e : b = d := Int.le_antisymm (Int.le_of_dvd (by omega) e1) (Int.le_of_dvd (by omega) e2)
  refine ⟨?_, e⟩
  rw [← e] at h
  exact Int.eq_of_mul_eq_mul_right (by omega) h
theorem cmp_self (a b : Int) : cmp a b a b = 0 := by unfold cmp; split <;> simp
theorem cmp_bad {a b c d : Int} (h : (vr a b && vr c d) = false) : cmp a b c d = 0 := by unfold cmp; rw [h]; rfl
theorem cmp_lt {a b c d : Int} (h1 : vr a b = true) (h2 : vr c d = true) (h : a * d < c * b) : cmp a b c d = -1 := by unfold cmp; rw [h1, h2]; simp [h]
theorem cmp_ge {a b c d : Int} (h1 : vr a b = true) (h2 : vr c d = true) (hn : ¬ (a = c ∧ b = d)) (h : ¬ a * d < c * b) : cmp a b c d = 1 := by
  unfold cmp
  rw [h1, h2]
  have : a * d ≠ c * b := fun e => hn (low_unique h1 h2 e)
  simp [h, this]
theorem cmp_gt {a b c d : Int} (h1 : vr a b = true) (h2 : vr c d = true) (h : c * b < a * d) : cmp a b c d = 1 := by
  unfold cmp
  rw [h1, h2]
  have e1 : ¬ a * d < c * b := by omega
  have e2 : ¬ a * d = c * b := by omega
  simp [e1, e2]
theorem cmp_eq {a b c d : Int} (h1 : vr a b = true) (h2 : vr c d = true) (h : a * d = c * b) : cmp a b c d = 0 := by
  unfold cmp
  rw [h1, h2]
  simp [h]

theorem neg_ediv_pos {m d : Int} (hd : 0 < d) : (-m) / d = if m % d = 0 then -(m / d) else -(m / d) - 1 := by
  rw [Int.neg_ediv]
  by_cases h : m % d = 0
  · rw [if_pos h, if_pos (Int.dvd_of_emod_eq_zero h)]; omega
  · rw [if_neg h, if_neg (fun e => h (Int.emod_eq_zero_of_dvd e)), Int.sign_eq_one_of_pos hd]
theorem tdf {n d : Int} (hd : 0 < d) : (if n.tmod d < 0 then n.tdiv d - 1 else n.tdiv d) = n / d := by
  by_cases hn : 0 ≤ n
  · rw [Int.tdiv_eq_ediv_of_nonneg hn, Int.tmod_eq_emod_of_nonneg hn, if_neg]
    have := Int.emod_nonneg n (b := d) (by omega)
    omega
  · obtain ⟨m, rfl⟩ : ∃ m, n = -m := ⟨-n, by omega⟩
    have hm : 0 ≤ m := by omega
    have h0 := Int.emod_nonneg m (b := d) (by omega)
    rw [Int.neg_tdiv, Int.neg_tmod, Int.tdiv_eq_ediv_of_nonneg hm, Int.tmod_eq_emod_of_nonneg hm, neg_ediv_pos hd]
    by_cases h : m % d = 0
    · rw [if_pos h, if_neg (by omega)]
    · rw [if_neg h, if_pos (by omega)]
theorem tdc {n d : Int} (hd : 0 < d) : (if 0 < n.tmod d then n.tdiv d + 1 else n.tdiv d) = -((-n) / d) := by
  have h := tdf (n := -n) hd
  rw [Int.neg_tdiv, Int.neg_tmod] at h
  rw [← h]
  by_cases h : 0 < n.tmod d
  · rw [if_pos h, if_pos (by omega)]; omega
  · rw [if_neg h, if_neg (by omega)]; omega
/-- Rounding down and up; nothing where the ratio is not valid. -/
def flo (n d : Int) : Int := if vr n d then n / d else 0
def cel (n d : Int) : Int := if vr n d then -((-n) / d) else 0

end Rat2
end Go.Proofs.Ytghcbicapcpmlaa
