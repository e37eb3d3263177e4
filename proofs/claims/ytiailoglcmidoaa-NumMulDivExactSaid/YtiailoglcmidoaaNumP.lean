/-
  The law on MulDiv: its walk.
-/
import Derived.Test.YtiailoglcmidoaaNumO
namespace Go.Proofs.Ytiailoglcmidoaa
open Go.RowKit
namespace Num

theorem prod_split (a b : Nat) : (a / 1000000 * (b / 1000000) + (a / 1000000 * (b % 1000000) + a % 1000000 * (b / 1000000)) / 1000000 + (a % 1000000 * (b % 1000000) + (a / 1000000 * (b % 1000000) + a % 1000000 * (b / 1000000)) % 1000000 * 1000000) / 1000000000000 = a * b / 1000000000000) ∧
    ((a % 1000000 * (b % 1000000) + (a / 1000000 * (b % 1000000) + a % 1000000 * (b / 1000000)) % 1000000 * 1000000) % 1000000000000 = a * b % 1000000000000) := by
  have ha : a = a / 1000000 * 1000000 + a % 1000000 := by omega
  have hb : b = b / 1000000 * 1000000 + b % 1000000 := by omega
  have e : a * b = a / 1000000 * (b / 1000000) * 1000000000000 + (a / 1000000 * (b % 1000000) + a % 1000000 * (b / 1000000)) * 1000000 + a % 1000000 * (b % 1000000) := by
    have : a * b = (a / 1000000 * 1000000 + a % 1000000) * (b / 1000000 * 1000000 + b % 1000000) := by rw [← ha, ← hb]
    rw [this, Nat.add_mul, Nat.mul_add, Nat.mul_add]
    have e1 : a / 1000000 * 1000000 * (b / 1000000 * 1000000) = a / 1000000 * (b / 1000000) * 1000000000000 := by
      rw [Nat.mul_assoc, Nat.mul_left_comm 1000000, ← Nat.mul_assoc]
    have e2 : a / 1000000 * 1000000 * (b % 1000000) = a / 1000000 * (b % 1000000) * 1000000 := Nat.mul_right_comm _ _ _
    have e3 : a % 1000000 * (b / 1000000 * 1000000) = a % 1000000 * (b / 1000000) * 1000000 := (Nat.mul_assoc _ _ _).symm
    rw [e1, e2, e3]
    omega
  rw [e]
  omega

set_option maxHeartbeats 1000000 in
theorem product_core (a b ah al bh bl : Nat) (h1 : (a : Int) / 1000000 = (ah : Int)) (h2 : (a : Int) % 1000000 = (al : Int)) (h3 : (b : Int) / 1000000 = (bh : Int)) (h4 : (b : Int) % 1000000 = (bl : Int))
    (ha : a ≤ 1000000000000) (hb : b ≤ 1000000000000) (b1 : ah ≤ 1000000) (b3 : bh ≤ 1000000)
    (p1 p2 p3 p4 : Nat) (g1 : (ah : Int) * (bl : Int) = (p1 : Int)) (g2 : (al : Int) * (bh : Int) = (p2 : Int)) (g3 : (al : Int) * (bl : Int) = (p3 : Int)) (g4 : (ah : Int) * (bh : Int) = (p4 : Int))
    (c1 : p1 ≤ 1000000000000) (c2 : p2 ≤ 1000000000000) (c3 : p3 ≤ 1000000000000) (c4 : p4 ≤ 1000000000000) (w : World) :
    Calls Try.prog 29 #[.int .i64 (a : Int), .int .i64 (b : Int)] w fun e w' =>
      e = .returned (.tuple #[.int .i64 ((p4 : Int) + ((p1 : Int) + p2) / 1000000 + ((p3 : Int) + ((p1 : Int) + p2) % 1000000 * 1000000) / 1000000000000), .int .i64 (((p3 : Int) + ((p1 : Int) + p2) % 1000000 * 1000000) % 1000000000000)]) ∧ w = w' := by
  go_enter Try.func29, Try.ntmps29
  go_wp2
  go_ret2
  exact ⟨rfl, rfl⟩

theorem product_any (a b h l : Nat) (ha : a ≤ 1000000000000) (hb : b ≤ 1000000000000) (hh : h = a * b / 1000000000000) (hl : l = a * b % 1000000000000) (w : World) :
    Calls Try.prog 29 #[.int .i64 (a : Int), .int .i64 (b : Int)] w fun e w' => e = .returned (.tuple #[.int .i64 (h : Int), .int .i64 (l : Int)]) ∧ w = w' := by
  have q1 : a / 1000000 * (b % 1000000) ≤ 1000000 * 1000000 := Nat.mul_le_mul (by omega) (by omega)
  have q2 : a % 1000000 * (b / 1000000) ≤ 1000000 * 1000000 := Nat.mul_le_mul (by omega) (by omega)
  have q3 : a % 1000000 * (b % 1000000) ≤ 1000000 * 1000000 := Nat.mul_le_mul (by omega) (by omega)
  have q4 : a / 1000000 * (b / 1000000) ≤ 1000000 * 1000000 := Nat.mul_le_mul (by omega) (by omega)
  obtain ⟨s1, s2⟩ := prod_split a b
  refine (product_core a b (a / 1000000) (a % 1000000) (b / 1000000) (b % 1000000) (by omega) (by omega) (by omega) (by omega) ha hb (by omega) (by omega)
    (a / 1000000 * (b % 1000000)) (a % 1000000 * (b / 1000000)) (a % 1000000 * (b % 1000000)) (a / 1000000 * (b / 1000000)) (by rw [Int.natCast_mul]) (by rw [Int.natCast_mul]) (by rw [Int.natCast_mul]) (by rw [Int.natCast_mul]) q1 q2 q3 q4 w).mono ?_
  rintro e w' ⟨rfl, hw⟩
  refine ⟨?_, hw⟩
  have e1 : ∀ x y : Int, x = h → y = l → Ending.returned (.tuple #[.int .i64 x, .int .i64 y]) = .returned (.tuple #[.int .i64 (h : Int), .int .i64 (l : Int)]) := by
    rintro x y rfl rfl; rfl
  apply e1
  · rw [hh, ← s1]; omega
  · rw [hl, ← s2]; omega

theorem parts_le {P R M : Nat} (hM : M = 1000000000000) (h : R ≤ P) : R / M < P / M ∨ (R / M = P / M ∧ R % M ≤ P % M) := by subst hM; omega
theorem parts_lt {P R c : Nat} (h : P < R + c) : P / 1000000000000 < R / 1000000000000 + (R % 1000000000000 + c) / 1000000000000 ∨
    (R / 1000000000000 + (R % 1000000000000 + c) / 1000000000000 = P / 1000000000000 ∧ P % 1000000000000 < (R % 1000000000000 + c) % 1000000000000) := by omega

set_option maxHeartbeats 2000000 in
theorem exact_core (a b c q h l x y d z : Nat) (hc : c ≤ 1000000000000)
    (m1 : Hid (∀ w, Calls Try.prog 27 #[.int .i64 (a : Int), .int .i64 (b : Int), .int .i64 (c : Int)] w fun e w' => e = pair (q : Int) 0 ∧ ∃ n, w' = w.drewN n))
    (m2 : Hid (∀ w, Calls Try.prog 28 #[.int .i64 (a : Int), .int .i64 (b : Int), .int .i64 (c : Int)] w fun e w' => e = pair (q : Int) 0 ∧ Grown w w'))
    (p1 : Hid (∀ w, Calls Try.prog 29 #[.int .i64 (a : Int), .int .i64 (b : Int)] w fun e w' => e = .returned (.tuple #[.int .i64 (h : Int), .int .i64 (l : Int)]) ∧ w = w'))
    (p2 : Hid (∀ w, Calls Try.prog 29 #[.int .i64 (q : Int), .int .i64 (c : Int)] w fun e w' => e = .returned (.tuple #[.int .i64 (x : Int), .int .i64 (y : Int)]) ∧ w = w'))
    (hx : x ≤ 1000000000001) (hy : y < 1000000000000) (hd : d ≤ 10) (e1 : ((y : Int) + (c : Int)) / 1000000000000 = (d : Int)) (e2 : ((y : Int) + (c : Int)) % 1000000000000 = (z : Int))
    (k1 : (x : Int) ≤ (h : Int)) (k2 : ((x : Int) == (h : Int)) = false ∨ (x = h ∧ y ≤ l)) (k3 : ((h : Int) < (x : Int) + (d : Int)) ∨ (((x : Int) + (d : Int) == (h : Int)) = true ∧ (x : Int) + (d : Int) ≤ (h : Int) ∧ (l : Int) < (z : Int))) (w : World) :
    Calls Try.prog 8 #[.int .i64 (a : Int), .int .i64 (b : Int), .int .i64 (c : Int)] w fun e w' => e = .returned (.bool true) ∧ Grown w w' := by
  rcases k2 with k2 | ⟨rfl, k2⟩ <;> rcases k3 with k3 | ⟨k3, k4, k5⟩
  all_goals
    go_enter Try.func8, Try.ntmps8
    go_wp2_with fail
    refine (m1.out _).mono ?_
    rintro e w1 ⟨rfl, n1, rfl⟩
    unfold pair
    go_wp2_with fail
    refine (m2.out _).mono ?_
    rintro e w2 ⟨rfl, g2⟩
    unfold pair
    go_wp2_with fail
    refine (p1.out _).mono ?_
    rintro e w' ⟨rfl, rfl⟩
    go_wp2_with fail
    refine (p2.out _).mono ?_
    rintro e w' ⟨rfl, rfl⟩
    go_wp2_with (go_at_call 10; refine (awake_any _).mono ?_; rintro e w3 ⟨rfl, g3⟩)
    go_ret
    exact ⟨rfl, Gr.trans (Gr.drewN (Grown.refl _) n1) (Gr.trans g2 g3)⟩

theorem law_mulDivExact (a b c : Int) (w : World) :
    Calls Try.prog 8 #[.int .i64 a, .int .i64 b, .int .i64 c] w fun e w' => e = .returned (.bool true) ∧ Grown w w' := by
  have m1 := fun w => mulDiv_any a b c w
  have m2 := fun w => rmulDiv_any a b c w
  by_cases he : mdE a b c = 0
  · have hamt : (amt a && amt b && amt c) = true := by
      cases h : (amt a && amt b && amt c)
      · rw [mdE, h] at he; simp at he
      · rfl
    have hc0 : c ≠ 0 := by
      intro h
      rw [mdE, hamt, if_pos rfl, if_pos h] at he
      simp at he
    have hle : a * b / c ≤ 1000000000000 := by
      rcases Int.lt_or_le 1000000000000 (a * b / c) with h | h
      · rw [mdE, hamt, if_pos rfl, if_neg hc0, if_neg (by omega)] at he
        simp at he
      · exact h
    have hv : mdV a b c = a * b / c := by rw [mdV, hamt, if_pos rfl, if_neg hc0, if_pos hle]
    rw [he, hv] at m1 m2
    obtain ⟨⟨ha, hb⟩, hc⟩ : (amt a = true ∧ amt b = true) ∧ amt c = true := by simpa using hamt
    obtain ⟨a0, a1⟩ := amt_true ha
    obtain ⟨b0, b1⟩ := amt_true hb
    obtain ⟨c0, c1⟩ := amt_true hc
    obtain ⟨a, rfl⟩ := Int.eq_ofNat_of_zero_le a0
    obtain ⟨b, rfl⟩ := Int.eq_ofNat_of_zero_le b0
    obtain ⟨c, rfl⟩ := Int.eq_ofNat_of_zero_le c0
    have e : (a : Int) * (b : Int) / (c : Int) = ((a * b / c : Nat) : Int) := by rw [Int.natCast_ediv, Int.natCast_mul]
    rw [e] at m1 m2 hle
    have hcp : 0 < c := by omega
    have hlow : a * b / c * c ≤ a * b := Nat.div_mul_le_self _ _
    have hhigh : a * b < a * b / c * c + c := by
      have := Nat.lt_div_mul_add (a := a * b) hcp
      omega
    generalize a * b / c = q at *
    have hx : q * c / 1000000000000 ≤ 1000000000000 := by
      have : q * c ≤ 1000000000000 * 1000000000000 := Nat.mul_le_mul (by omega) (by omega)
      omega
    have t1 := parts_le (M := 1000000000000) rfl hlow
    have t2 := parts_lt hhigh
    refine exact_core a b c q _ _ _ _ ((q * c % 1000000000000 + c) / 1000000000000) ((q * c % 1000000000000 + c) % 1000000000000) (by omega) (Lib.hid m1) (Lib.hid m2)
      (Lib.hid fun w => product_any a b _ _ (by omega) (by omega) rfl rfl w) (Lib.hid fun w => product_any q c _ _ (by omega) (by omega) rfl rfl w) (by omega) (by omega) (by omega) (by omega) (by omega) (by omega) ?_ ?_ w
    · rcases t1 with t1 | t1
      · left; rw [beq_eq_false_iff_ne]; omega
      · right; exact t1
    · rcases t2 with t2 | ⟨t2, t3⟩
      · left; omega
      · right
        refine ⟨?_, by omega, by omega⟩
        rw [beq_iff_eq]; omega
  · have heb : (mdE a b c != 0) = true := by simpa using he
    have heb' : (mdE a b c == 0) = false := by simpa using he
    have M1 := Lib.hid m1
    have M2 := Lib.hid m2
    clear m1 m2 he
    generalize mdE a b c = x at *
    generalize mdV a b c = y at *
    go_enter Try.func8, Try.ntmps8
    go_wp2_with fail
    refine (M1.out _).mono ?_
    rintro e w1 ⟨rfl, n1, rfl⟩
    unfold pair
    go_wp2_with fail
    refine (M2.out _).mono ?_
    rintro e w2 ⟨rfl, g2⟩
    unfold pair
    go_wp2_with (go_at_call 10; refine (awake_any _).mono ?_; rintro e w3 ⟨rfl, g3⟩)
    go_ret
    exact ⟨rfl, Gr.trans (Gr.drewN (Grown.refl _) n1) (Gr.trans g2 g3)⟩

end Num
end Go.Proofs.Ytiailoglcmidoaa
