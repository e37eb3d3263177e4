/-
  The arithmetic of a division of two words by one: the estimated digit, and how it is corrected. No program.
-/
namespace Go.Proofs.Ytghcbicapcpmlaa
namespace Num

/-- The digit q is at least the true one, and r is what it leaves of the leading word. -/
def Est (U u Y1 Y0 q r : Int) : Prop := (U * 4294967296 + u) / (Y1 * 4294967296 + Y0) ≤ q ∧ r = U - q * Y1

structure Dig (U u Y1 Y0 : Int) : Prop where
  u0 : 0 ≤ u
  u1 : u < 4294967296
  a0 : 2147483648 ≤ Y1
  a1 : Y1 < 4294967296
  b0 : 0 ≤ Y0
  b1 : Y0 < 4294967296
  c0 : 0 ≤ U
  c1 : U < Y1 * 4294967296 + Y0

theorem Dig.true_lt {U u Y1 Y0 : Int} (d : Dig U u Y1 Y0) : (U * 4294967296 + u) / (Y1 * 4294967296 + Y0) < 4294967296 := by
  obtain ⟨u0, u1, a0, a1, b0, b1, c0, c1⟩ := d
  apply (Int.ediv_lt_iff_lt_mul (by omega)).2
  omega
theorem Dig.true_nonneg {U u Y1 Y0 : Int} (d : Dig U u Y1 Y0) : 0 ≤ (U * 4294967296 + u) / (Y1 * 4294967296 + Y0) := by
  obtain ⟨u0, u1, a0, a1, b0, b1, c0, c1⟩ := d
  exact Int.ediv_nonneg (by omega) (by omega)

theorem Dig.start {U u Y1 Y0 : Int} (d : Dig U u Y1 Y0) : Est U u Y1 Y0 (U / Y1) (U - U / Y1 * Y1) ∧ U / Y1 ≤ 4294967297 ∧ 0 ≤ U - U / Y1 * Y1 ∧ U - U / Y1 * Y1 < 4294967296 ∧ 0 ≤ U / Y1 ∧ 0 ≤ U / Y1 * Y1 := by
  have d' := d
  obtain ⟨u0, u1, a0, a1, b0, b1, c0, c1⟩ := d
  have hq0 := d'.true_nonneg
  generalize hq : (U * 4294967296 + u) / (Y1 * 4294967296 + Y0) = q at *
  have h1 : q * (Y1 * 4294967296 + Y0) ≤ U * 4294967296 + u := by
    rw [← hq]; exact Int.ediv_mul_le _ (by omega)
  have h2 : 0 ≤ q * Y0 := Int.mul_nonneg hq0 b0
  have h3 : q * (Y1 * 4294967296 + Y0) = q * Y1 * 4294967296 + q * Y0 := by rw [Int.mul_add, Int.mul_assoc]
  have h4 : q * Y1 ≤ U := by omega
  have h5 : q ≤ U / Y1 := (Int.le_ediv_iff_mul_le (by omega)).2 h4
  have h6 : U / Y1 * Y1 ≤ U := Int.ediv_mul_le _ (by omega)
  have h7 : U < (U / Y1 + 1) * Y1 := Int.lt_ediv_add_one_mul_self _ (by omega)
  have h8 : (U / Y1 + 1) * Y1 = U / Y1 * Y1 + Y1 := by rw [Int.add_mul, Int.one_mul]
  refine ⟨⟨by rw [hq]; exact h5, rfl⟩, ?_, by omega, by omega, Int.ediv_nonneg c0 (by omega), Int.mul_nonneg (Int.ediv_nonneg c0 (by omega)) (by omega)⟩
  have : U / Y1 < 4294967298 := (Int.ediv_lt_iff_lt_mul (by omega)).2 (by omega)
  omega

/-- The digit is too great: one less is still great enough. -/
theorem Dig.down {U u Y1 Y0 q r : Int} (d : Dig U u Y1 Y0) (e : Est U u Y1 Y0 q r) (h : 4294967296 ≤ q ∨ 4294967296 * r + u < q * Y0) :
    Est U u Y1 Y0 (q - 1) (r + Y1) ∧ 1 ≤ q := by
  have t := d.true_lt
  have t0 := d.true_nonneg
  obtain ⟨u0, u1, a0, a1, b0, b1, c0, c1⟩ := d
  obtain ⟨e1, rfl⟩ := e
  have key : (U * 4294967296 + u) / (Y1 * 4294967296 + Y0) < q := by
    rcases h with h | h
    · omega
    · apply (Int.ediv_lt_iff_lt_mul (by omega)).2
      have h3 : q * (Y1 * 4294967296 + Y0) = q * Y1 * 4294967296 + q * Y0 := by rw [Int.mul_add, Int.mul_assoc]
      omega
  refine ⟨⟨by omega, ?_⟩, by omega⟩
  have : (q - 1) * Y1 = q * Y1 - Y1 := by rw [Int.sub_mul, Int.one_mul]
  omega

/-- The digit is not too great: it is the true one. -/
theorem Dig.right {U u Y1 Y0 q r : Int} (d : Dig U u Y1 Y0) (e : Est U u Y1 Y0 q r) (h : q * Y0 ≤ 4294967296 * r + u) :
    q = (U * 4294967296 + u) / (Y1 * 4294967296 + Y0) := by
  obtain ⟨u0, u1, a0, a1, b0, b1, c0, c1⟩ := d
  obtain ⟨e1, rfl⟩ := e
  have : q ≤ (U * 4294967296 + u) / (Y1 * 4294967296 + Y0) := by
    apply (Int.le_ediv_iff_mul_le (by omega)).2
    have h3 : q * (Y1 * 4294967296 + Y0) = q * Y1 * 4294967296 + q * Y0 := by rw [Int.mul_add, Int.mul_assoc]
    omega
  omega
/-- What is left is as great as a digit: the digit is the true one. -/
theorem Dig.rightBig {U u Y1 Y0 q r : Int} (d : Dig U u Y1 Y0) (e : Est U u Y1 Y0 q r) (h1 : q ≤ 4294967296) (h : 4294967296 ≤ r) :
    q = (U * 4294967296 + u) / (Y1 * 4294967296 + Y0) := by
  refine d.right e ?_
  obtain ⟨u0, u1, a0, a1, b0, b1, c0, c1⟩ := d
  have : q * Y0 ≤ 4294967296 * 4294967295 := Int.mul_le_mul h1 (by omega) b0 (by omega)
  omega
theorem prod_bd {q y : Int} (h0 : 0 ≤ q) (h1 : q < 4294967296) (h2 : 0 ≤ y) (h3 : y < 4294967296) : 0 ≤ q * y ∧ q * y ≤ 18446744065119617025 := by
  refine ⟨Int.mul_nonneg h0 h2, ?_⟩
  have : q * y ≤ 4294967295 * 4294967295 := Int.mul_le_mul (by omega) (by omega) h2 (by omega)
  omega

/-- Two digits are the quotient. -/
theorem two_digits (U L Y : Int) (hY : 0 < Y) (a : Int) (ha : a = (U * 4294967296 + L / 4294967296) / Y)
    (b : Int) (hb : b = ((U * 4294967296 + L / 4294967296 - a * Y) * 4294967296 + L % 4294967296) / Y) : a * 4294967296 + b = (U * 18446744073709551616 + L) / Y := by
  have e : (U * 4294967296 + L / 4294967296 - a * Y) * 4294967296 + L % 4294967296 = (U * 18446744073709551616 + L) + (-(a * 4294967296)) * Y := by
    have : -(a * 4294967296) * Y = -(a * Y * 4294967296) := by rw [Int.neg_mul, Int.mul_right_comm]
    rw [this]
    omega
  rw [e, Int.add_mul_ediv_right _ _ (by omega)] at hb
  omega
end Num
end Go.Proofs.Ytghcbicapcpmlaa
