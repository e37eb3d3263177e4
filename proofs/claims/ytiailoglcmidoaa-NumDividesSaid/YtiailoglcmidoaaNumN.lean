/-
  The laws over integers: the walks.
-/
import Derived.Test.YtiailoglcmidoaaNumL
namespace Go.Proofs.Ytiailoglcmidoaa
open Go.RowKit
namespace Num

theorem law_adds (a b : Int) (w : World) :
    Calls Try.prog 5 #[.int .i64 a, .int .i64 b] w fun e w' => e = .returned (.bool true) ∧ Grown w w' := by
  go_enter Try.func5, Try.ntmps5
  go_wp2_with (first
    | (go_at_call 17; refine (add_any _ _ _).mono ?_; rintro e w' ⟨rfl, rfl⟩; unfold pair)
    | (go_at_call 18; refine (sub_any _ _ _).mono ?_; rintro e w' ⟨rfl, rfl⟩; unfold pair)
    | (go_at_call 19; refine (mul_any _ _ _).mono ?_; rintro e w' ⟨rfl, rfl⟩; unfold pair)
    | (go_at_call 20; refine (radd_any _ _ _).mono ?_; rintro e w' ⟨rfl, rfl⟩; unfold pair)
    | (go_at_call 21; refine (rsub_any _ _ _).mono ?_; rintro e w' ⟨rfl, rfl⟩; unfold pair)
    | (go_at_call 22; refine (rmul_any _ _ _).mono ?_; rintro e w' ⟨rfl, rfl⟩; unfold pair)
    | (go_at_call 10; refine (awake_any _).mono ?_; rintro e w' ⟨rfl, hg⟩))
  go_ret
  exact ⟨rfl, hg⟩

theorem law_divides (a b : Int) (w : World) :
    Calls Try.prog 6 #[.int .i64 a, .int .i64 b] w fun e w' => e = .returned (.bool true) ∧ Grown w w' := by
  go_enter Try.func6, Try.ntmps6
  go_wp2_with (first
    | (go_at_call 23; refine (divMod_any _ _ _).mono ?_; rintro e w1 ⟨rfl, n1, rfl⟩; unfold trip)
    | (go_at_call 24; refine (ceilDiv_any _ _ _).mono ?_; rintro e w2 ⟨rfl, n2, rfl⟩; unfold pair)
    | (go_at_call 25; refine (rdivMod_any _ _ _).mono ?_; rintro e w3 ⟨rfl, n3, rfl⟩; unfold trip)
    | (go_at_call 26; refine (rceilDiv_any _ _ _).mono ?_; rintro e w4 ⟨rfl, n4, rfl⟩; unfold pair)
    | (go_at_call 10; refine (awake_any _).mono ?_; rintro e w' ⟨rfl, hg⟩))
  go_ret
  exact ⟨rfl, hg⟩

theorem law_clamps (n low high : Int) (w : World) :
    Calls Try.prog 9 #[.int .i64 n, .int .i64 low, .int .i64 high] w fun e w' => e = .returned (.bool true) ∧ Grown w w' := by
  by_cases h : n < low
  · have e : clampV n low high = low := by simp [clampV, h]
    have H := Lib.hid e
    clear e
    go_enter Try.func9, Try.ntmps9
    go_wp2_with (first
      | (go_at_call 30; refine (clamp_any _ _ _ _).mono ?_; rintro e w' ⟨rfl, rfl⟩; rw [H.out])
      | (go_at_call 31; refine (rclamp_any _ _ _ _).mono ?_; rintro e w' ⟨rfl, rfl⟩; rw [H.out])
      | (go_at_call 10; refine (awake_any _).mono ?_; rintro e w' ⟨rfl, hg⟩))
    all_goals (go_ret; exact ⟨rfl, hg⟩)
  by_cases h2 : high < n
  · have e : clampV n low high = high := by simp [clampV, h, h2]
    have H := Lib.hid e
    clear e
    go_enter Try.func9, Try.ntmps9
    go_wp2_with (first
      | (go_at_call 30; refine (clamp_any _ _ _ _).mono ?_; rintro e w' ⟨rfl, rfl⟩; rw [H.out])
      | (go_at_call 31; refine (rclamp_any _ _ _ _).mono ?_; rintro e w' ⟨rfl, rfl⟩; rw [H.out])
      | (go_at_call 10; refine (awake_any _).mono ?_; rintro e w' ⟨rfl, hg⟩))
    all_goals (go_ret; exact ⟨rfl, hg⟩)
  · have e : clampV n low high = n := by simp [clampV, h, h2]
    have H := Lib.hid e
    clear e
    go_enter Try.func9, Try.ntmps9
    go_wp2_with (first
      | (go_at_call 30; refine (clamp_any _ _ _ _).mono ?_; rintro e w' ⟨rfl, rfl⟩; rw [H.out])
      | (go_at_call 31; refine (rclamp_any _ _ _ _).mono ?_; rintro e w' ⟨rfl, rfl⟩; rw [H.out])
      | (go_at_call 10; refine (awake_any _).mono ?_; rintro e w' ⟨rfl, hg⟩))
    all_goals (go_ret; exact ⟨rfl, hg⟩)

theorem quot_facts {a b : Int} (ha : vld a = true) (hb : vld b = true) (hz : b ≠ 0) :
    dq a b * b + dr a b = a ∧ (0 < b → 0 ≤ dr a b ∧ dr a b < b) ∧ (b < 0 → dr a b ≤ 0 ∧ b < dr a b) ∧ cdV a b = -dq (-a) b := by
  have hb' := vld_true hb
  have e := Int.mul_tdiv_add_tmod a b
  rw [Int.mul_comm] at e
  have e1 : (-a).tdiv b = -a.tdiv b := Int.neg_tdiv a b
  have e2 : (-a).tmod b = -a.tmod b := Int.neg_tmod a b
  have hm1 := Int.natAbs_tmod a b
  have hm2 := Nat.mod_lt a.natAbs (y := b.natAbs) (by omega)
  have hE : dmE a b = 0 := by simp [dmE, ha, hb, hz]
  have hQ : dmQ a b = dq a b := by simp [dmQ, ha, hb, hz]
  have hR : dmR a b = dr a b := by simp [dmR, ha, hb, hz]
  rw [cdV, hE, if_pos rfl, hQ, hR]
  simp only [dq, dr, adj, e1, e2]
  have em : (a.tdiv b - 1) * b = a.tdiv b * b - b := by rw [Int.sub_mul, Int.one_mul]
  rcases Int.lt_trichotomy b 0 with g | g | g
  · rcases Int.lt_trichotomy (a.tmod b) 0 with f | f | f
    · have c1 : ((a.tmod b != 0) && (!decide (a.tmod b < 0) == decide (b < 0))) = false := by simp [g, f]
      have c2 : ((-a.tmod b != 0) && (!decide (-a.tmod b < 0) == decide (b < 0))) = true := by simp [g]; omega
      have c3 : (a.tmod b != 0) = true := by simp; omega
      simp only [c1, Bool.false_eq_true, if_false]
      simp only [c2, c3, if_true]
      omega
    · simp [f]
      rw [f] at e
      omega
    · have c1 : ((a.tmod b != 0) && (!decide (a.tmod b < 0) == decide (b < 0))) = true := by simp [g]; omega
      have c2 : ((-a.tmod b != 0) && (!decide (-a.tmod b < 0) == decide (b < 0))) = false := by simp [g]; omega
      have c3 : (a.tmod b + b != 0) = true := by simp; omega
      simp only [c1, if_true]
      simp only [c2, c3, if_true, Bool.false_eq_true, if_false]
      omega
  · exact absurd g hz
  · have g' : ¬ b < 0 := by omega
    rcases Int.lt_trichotomy (a.tmod b) 0 with f | f | f
    · have c1 : ((a.tmod b != 0) && (!decide (a.tmod b < 0) == decide (b < 0))) = true := by simp [g', f]; omega
      have c2 : ((-a.tmod b != 0) && (!decide (-a.tmod b < 0) == decide (b < 0))) = false := by simp [g']; omega
      have c3 : (a.tmod b + b != 0) = true := by simp; omega
      simp only [c1, if_true]
      simp only [c2, c3, if_true, Bool.false_eq_true, if_false]
      omega
    · simp [f]
      rw [f] at e
      omega
    · have c1 : ((a.tmod b != 0) && (!decide (a.tmod b < 0) == decide (b < 0))) = false := by simp [g']; omega
      have c2 : ((-a.tmod b != 0) && (!decide (-a.tmod b < 0) == decide (b < 0))) = true := by simp [g']; omega
      have c3 : (a.tmod b != 0) = true := by simp; omega
      simp only [c1, Bool.false_eq_true, if_false]
      simp only [c2, c3, if_true]
      omega

set_option maxHeartbeats 1000000 in
theorem law_quotients (a b : Int) (w : World) :
    Calls Try.prog 7 #[.int .i64 a, .int .i64 b] w fun e w' => e = .returned (.bool true) ∧ Grown w w' := by
  cases hv : (vld a && vld b)
  · have hd : Hid (∀ w, Calls Try.prog 23 #[.int .i64 a, .int .i64 b] w fun e w' => e = trip 0 0 2 ∧ w = w') := Lib.hid fun w => divMod_range a b hv w
    clear hv
    go_enter Try.func7, Try.ntmps7
    go_wp2_with (first
      | (go_at_call 23; refine (hd.out _).mono ?_; rintro e w' ⟨rfl, rfl⟩; unfold trip)
      | (go_at_call 10; refine (awake_any _).mono ?_; rintro e w' ⟨rfl, hg⟩))
    go_ret
    exact ⟨rfl, hg⟩
  obtain ⟨ha, hb⟩ : vld a = true ∧ vld b = true := by simpa using hv
  clear hv
  by_cases hz : b = 0
  · subst hz
    have hd : Hid (∀ w, Calls Try.prog 23 #[.int .i64 a, .int .i64 0] w fun e w' => e = trip 0 0 9 ∧ w = w') := Lib.hid fun w => divMod_zero a ha w
    clear ha hb
    go_enter Try.func7, Try.ntmps7
    go_wp2_with (first
      | (go_at_call 23; refine (hd.out _).mono ?_; rintro e w' ⟨rfl, rfl⟩; unfold trip)
      | (go_at_call 10; refine (awake_any _).mono ?_; rintro e w' ⟨rfl, hg⟩))
    go_ret
    exact ⟨rfl, hg⟩
  obtain ⟨f1, f2, f3, f4⟩ := quot_facts ha hb hz
  obtain ⟨a1, a2⟩ := vld_true ha
  obtain ⟨b1, b2⟩ := vld_true hb
  have ha' : vld (-a) = true := vld_of (by omega) (by omega)
  have hq := dq_bd (b := b) a1 a2 hz
  have hp := dq_bd (a := -a) (b := b) (by omega) (by omega) hz
  have h1 : Hid (∀ w, Calls Try.prog 23 #[.int .i64 a, .int .i64 b] w fun e w' => e = trip (dq a b) (dr a b) 0 ∧ ∃ n, w' = w.drewN n) := Lib.hid fun w => divMod a b ha hb hz w
  have h2 : Hid (∀ w, Calls Try.prog 23 #[.int .i64 (-a), .int .i64 b] w fun e w' => e = trip (dq (-a) b) (dr (-a) b) 0 ∧ ∃ n, w' = w.drewN n) := Lib.hid fun w => divMod (-a) b ha' hb hz w
  have h3 : Hid (∀ w, Calls Try.prog 24 #[.int .i64 a, .int .i64 b] w fun e w' => e = pair (-dq (-a) b) 0 ∧ ∃ n, w' = w.drewN n) := Lib.hid fun w => by
    have := ceilDiv_any a b w
    rw [f4, show dmE a b = 0 from by simp [dmE, ha, hb, hz]] at this
    exact this
  clear f4 ha hb ha'
  generalize dq a b = q at *
  generalize dr a b = r at *
  generalize dq (-a) b = p at *
  generalize dr (-a) b = r' at *
  obtain ⟨q1, q2⟩ := hq
  obtain ⟨p1, p2⟩ := hp
  have hrb : -1000000000000 ≤ r ∧ r ≤ 1000000000000 := by
    rcases Int.lt_trichotomy b 0 with g | g | g
    · have := f3 g; omega
    · exact absurd g hz
    · have := f2 g; omega
  obtain ⟨r1, r2⟩ := hrb
  have E1 : wrap64 (wrap64 (q * b) + r) = a := by unfold wrap64; omega
  rcases Int.lt_trichotomy b 0 with g | g | g
  · obtain ⟨g1, g2⟩ := f3 g
    clear f1 f2 f3
    go_enter Try.func7, Try.ntmps7
    go_wp2_with fail
    refine (h1.out _).mono ?_
    rintro e w1 ⟨rfl, n1, rfl⟩
    unfold trip
    go_wp2_with fail
    refine (h3.out _).mono ?_
    rintro e w1 ⟨rfl, n2, rfl⟩
    unfold pair
    go_wp2_with fail
    refine (h2.out _).mono ?_
    rintro e w1 ⟨rfl, n3, rfl⟩
    unfold trip
    go_wp2_with (go_at_call 10; refine (awake_any _).mono ?_; rintro e w' ⟨rfl, hg⟩)
    go_ret
    exact ⟨rfl, hg⟩
  · exact absurd g hz
  · obtain ⟨g1, g2⟩ := f2 g
    clear f1 f2 f3
    go_enter Try.func7, Try.ntmps7
    go_wp2_with fail
    refine (h1.out _).mono ?_
    rintro e w1 ⟨rfl, n1, rfl⟩
    unfold trip
    go_wp2_with fail
    refine (h3.out _).mono ?_
    rintro e w1 ⟨rfl, n2, rfl⟩
    unfold pair
    go_wp2_with fail
    refine (h2.out _).mono ?_
    rintro e w1 ⟨rfl, n3, rfl⟩
    unfold trip
    go_wp2_with (go_at_call 10; refine (awake_any _).mono ?_; rintro e w' ⟨rfl, hg⟩)
    go_ret
    exact ⟨rfl, hg⟩

end Num
end Go.Proofs.Ytiailoglcmidoaa
