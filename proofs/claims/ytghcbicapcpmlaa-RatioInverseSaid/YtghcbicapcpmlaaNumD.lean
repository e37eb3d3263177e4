/-
  Contracts of MulDiv.
-/
import Derived.Test.YtghcbicapcpmlaaNumC
namespace Go.Proofs.Ytghcbicapcpmlaa
open Go.RowKit
namespace Num

/-- bits.Div64 where the leading word is 0. -/
theorem div64_low (lo y : Int) (h0 : 0 ≤ lo) (h1 : lo ≤ 18446744073709551615) (h2 : 1 ≤ y) (h3 : y ≤ 18446744073709551615) (w : World) :
    Calls Try.prog 53 #[.int .u64 0, .int .u64 lo, .int .u64 y] w (QuoIs (lo / y) w) := by
  have hy : (y == 0) = false := by simp; omega
  go_enter Try.func53, Try.ntmps53
  go_wp2
  go_quiet (fail)
  go_wp2
  go_ret2
  exact ⟨_, rfl, _, rfl⟩

def mdV (a b c : Int) : Int := if amt a && amt b && amt c then (if c = 0 then 0 else if a * b / c ≤ 1000000000000 then a * b / c else 0) else 0
def mdE (a b c : Int) : Int := if amt a && amt b && amt c then (if c = 0 then 9 else if a * b / c ≤ 1000000000000 then 0 else 8) else 2

theorem mulDiv_bad (a b c : Int) (h : (amt a && amt b && amt c) = false) (w : World) :
    Calls Try.prog 42 #[.int .i64 a, .int .i64 b, .int .i64 c] w fun e w' => e = pair 0 2 ∧ w = w' := by
  unfold pair
  cases ha : amt a
  · have H := Lib.hid ha
    clear ha h
    go_enter Try.func42, Try.ntmps42
    go_wp2_with (go_at_call 51; refine (isAmount_any _ _).mono ?_; rintro e w' ⟨rfl, rfl⟩; rw [H.out])
    go_ret2
    exact ⟨rfl, rfl⟩
  cases hb : amt b
  · have H := Lib.hid ha
    have H2 := Lib.hid hb
    clear ha hb h
    go_enter Try.func42, Try.ntmps42
    go_wp2_with (go_at_call 51; refine (isAmount_any _ _).mono ?_; rintro e w' ⟨rfl, rfl⟩; first | rw [H.out] | rw [H2.out])
    go_ret2
    exact ⟨rfl, rfl⟩
  have hc : amt c = false := by simpa [ha, hb] using h
  have H := Lib.hid ha
  have H2 := Lib.hid hb
  have H3 := Lib.hid hc
  clear ha hb hc h
  go_enter Try.func42, Try.ntmps42
  go_wp2_with (go_at_call 51; refine (isAmount_any _ _).mono ?_; rintro e w' ⟨rfl, rfl⟩; first | rw [H.out] | rw [H2.out] | rw [H3.out])
  go_ret2
  exact ⟨rfl, rfl⟩
theorem mulDiv_zero (a b : Int) (ha : amt a = true) (hb : amt b = true) (w : World) :
    Calls Try.prog 42 #[.int .i64 a, .int .i64 b, .int .i64 0] w fun e w' => e = pair 0 9 ∧ w = w' := by
  unfold pair
  have hc : amt 0 = true := rfl
  have H := Lib.hid ha
  have H2 := Lib.hid hb
  have H3 := Lib.hid hc
  clear ha hb hc
  go_enter Try.func42, Try.ntmps42
  go_wp2_with (go_at_call 51; refine (isAmount_any _ _).mono ?_; rintro e w' ⟨rfl, rfl⟩; first | rw [H.out] | rw [H2.out] | rw [H3.out])
  go_ret2
  exact ⟨rfl, rfl⟩

set_option maxHeartbeats 1000000 in
theorem mulDiv_core (a b c hi lo q : Nat) (ha : a ≤ 1000000000000) (hb : b ≤ 1000000000000) (hc : c ≤ 1000000000000) (hc0 : 1 ≤ c)
    (hh : Hid (hi = a * b / 18446744073709551616)) (hl : Hid (lo = a * b % 18446744073709551616)) (hq : Hid (q = a * b / c)) (w : World) :
    Calls Try.prog 42 #[.int .i64 (a : Int), .int .i64 (b : Int), .int .i64 (c : Int)] w fun e w' =>
      e = pair (if q ≤ 1000000000000 then (q : Int) else 0) (if q ≤ 1000000000000 then 0 else 8) ∧ ∃ n, w' = w.drewN n := by
  have Hm : Hid (∀ w, Calls Try.prog 52 #[.int .u64 (a : Int), .int .u64 (b : Int)] w fun e w' => e = .returned (.tuple #[.int .u64 (hi : Int), .int .u64 (lo : Int)]) ∧ w' = w) := by
    refine Lib.hid fun w => ?_
    have := Try.bits_Mul64 a b (by omega) (by omega) w
    rw [← hh.out, ← hl.out] at this
    exact this
  have hlo : lo < 18446744073709551616 := by rw [hl.out]; exact Nat.mod_lt _ (by decide)
  have hhi : hi < 18446744073709551616 := by
    have h1 : a * b ≤ 1000000000000 * 1000000000000 := Nat.mul_le_mul ha hb
    have := hh.out
    omega
  have H : Hid (amt (a : Int) = true) := Lib.hid (amt_of (by omega) (by omega))
  have H2 : Hid (amt (b : Int) = true) := Lib.hid (amt_of (by omega) (by omega))
  have H3 : Hid (amt (c : Int) = true) := Lib.hid (amt_of (by omega) (by omega))
  have hcb : ((c : Int) == 0) = false := by simp; omega
  have hm : hi * 18446744073709551616 + lo = a * b := by have := hh.out; have := hl.out; omega
  unfold pair
  by_cases g : c ≤ hi
  · have hbig : ¬ q ≤ 1000000000000 := by
      have : c * 18446744073709551616 ≤ hi * 18446744073709551616 := Nat.mul_le_mul_right _ g
      have : 18446744073709551616 ≤ a * b / c := (Nat.le_div_iff_mul_le (by omega)).2 (by rw [Nat.mul_comm]; omega)
      have := hq.out
      omega
    rw [if_neg hbig, if_neg hbig]
    clear hm
    go_enter Try.func42, Try.ntmps42
    go_wp2_with (first | (go_at_call 51; refine (isAmount_any _ _).mono ?_; rintro e w' ⟨rfl, rfl⟩; first | rw [H.out] | rw [H2.out] | rw [H3.out]) | (go_at_call 52; refine (Hm.out _).mono ?_; rintro e w' ⟨rfl, rfl⟩))
    go_ret2
    exact ⟨rfl, 0, rfl⟩
  · have Hd : Hid (∀ w, Calls Try.prog 53 #[.int .u64 (hi : Int), .int .u64 (lo : Int), .int .u64 (c : Int)] w (QuoIs (q : Int) w)) := by
      refine Lib.hid fun w => ?_
      by_cases hz : hi = 0
      · subst hz
        have := div64_low (lo : Int) (c : Int) (by omega) (by omega) (by omega) (by omega) w
        have e : (lo : Int) / (c : Int) = (q : Int) := by rw [hq.out, ← hm]; simp
        rw [e] at this
        exact this
      · have := div64_high hi lo c hlo (by omega) (by omega) (by omega) w
        rw [hm, ← hq.out] at this
        exact this
    have hq64 : q < 18446744073709551616 := by
      rw [hq.out]
      apply (Nat.div_lt_iff_lt_mul (by omega)).2
      have : (hi + 1) * 18446744073709551616 ≤ c * 18446744073709551616 := Nat.mul_le_mul_right _ (by omega)
      rw [Nat.mul_comm 18446744073709551616]
      omega
    clear hm
    by_cases g2 : q ≤ 1000000000000
    · rw [if_pos g2, if_pos g2]
      go_enter Try.func42, Try.ntmps42
      go_wp2_with (first | (go_at_call 51; refine (isAmount_any _ _).mono ?_; rintro e w' ⟨rfl, rfl⟩; first | rw [H.out] | rw [H2.out] | rw [H3.out]) | (go_at_call 52; refine (Hm.out _).mono ?_; rintro e w' ⟨rfl, rfl⟩) | (go_at_call 53; refine (Hd.out _).mono ?_; rintro e w' ⟨r, rfl, n, rfl⟩))
      go_ret2
      exact ⟨rfl, _, rfl⟩
    · rw [if_neg g2, if_neg g2]
      go_enter Try.func42, Try.ntmps42
      go_wp2_with (first | (go_at_call 51; refine (isAmount_any _ _).mono ?_; rintro e w' ⟨rfl, rfl⟩; first | rw [H.out] | rw [H2.out] | rw [H3.out]) | (go_at_call 52; refine (Hm.out _).mono ?_; rintro e w' ⟨rfl, rfl⟩) | (go_at_call 53; refine (Hd.out _).mono ?_; rintro e w' ⟨r, rfl, n, rfl⟩))
      go_ret2
      exact ⟨rfl, _, rfl⟩

theorem mulDiv_any (a b c : Int) (w : World) :
    Calls Try.prog 42 #[.int .i64 a, .int .i64 b, .int .i64 c] w fun e w' => e = pair (mdV a b c) (mdE a b c) ∧ ∃ n, w' = w.drewN n := by
  unfold mdV mdE
  cases h : (amt a && amt b && amt c)
  · refine (mulDiv_bad a b c h w).mono ?_
    rintro e w' ⟨rfl, rfl⟩
    exact ⟨rfl, 0, rfl⟩
  · obtain ⟨⟨ha, hb⟩, hc⟩ : (amt a = true ∧ amt b = true) ∧ amt c = true := by simpa using h
    by_cases hz : c = 0
    · subst hz
      refine (mulDiv_zero a b ha hb w).mono ?_
      rintro e w' ⟨rfl, rfl⟩
      exact ⟨rfl, 0, rfl⟩
    · obtain ⟨a0, a1⟩ := amt_true ha
      obtain ⟨b0, b1⟩ := amt_true hb
      obtain ⟨c0, c1⟩ := amt_true hc
      obtain ⟨a, rfl⟩ := Int.eq_ofNat_of_zero_le a0
      obtain ⟨b, rfl⟩ := Int.eq_ofNat_of_zero_le b0
      obtain ⟨c, rfl⟩ := Int.eq_ofNat_of_zero_le c0
      refine (mulDiv_core a b c _ _ _ (by omega) (by omega) (by omega) (by omega) (Lib.hid rfl) (Lib.hid rfl) (Lib.hid rfl) w).mono ?_
      rintro e w' ⟨rfl, hn⟩
      refine ⟨?_, hn⟩
      have e : (a : Int) * (b : Int) / (c : Int) = ((a * b / c : Nat) : Int) := by rw [Int.natCast_ediv, Int.natCast_mul]
      rw [if_neg hz, if_neg hz, e]
      by_cases g : a * b / c ≤ 1000000000000
      · have g' : ((a * b / c : Nat) : Int) ≤ 1000000000000 := by omega
        simp only [if_pos g, if_pos g', if_true]
      · have g' : ¬ ((a * b / c : Nat) : Int) ≤ 1000000000000 := by omega
        simp only [if_neg g, if_neg g', if_true]

end Num
end Go.Proofs.Ytghcbicapcpmlaa
