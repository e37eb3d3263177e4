/-
  The contract of the reference's MulDiv, which divides bit by bit.
-/
import Derived.Test.YtiailoglcmidoaaNumL
import Derived.Laws.BitsAllLaws
import Derived.Laws.BitsLemmas
namespace Go.Proofs.Ytiailoglcmidoaa
open Go.RowKit
namespace Num

theorem carry_yes (q r c : Int) (h : c ≤ r) (q0 : 0 ≤ q) (q1 : q ≤ 9000000000000) (r0 : 0 ≤ r) (r1 : r ≤ 9000000000000) (c0 : 0 ≤ c) (w : World) :
    Calls Try.prog 43 #[.int .i64 q, .int .i64 r, .int .i64 c] w fun e w' => e = .returned (.tuple #[.int .i64 (q + 1), .int .i64 (r - c)]) ∧ w' = w := by
  go_enter Try.func43, Try.ntmps43
  go_wp2
  go_ret2
  exact ⟨rfl, rfl⟩
/-- The same, what it returns under names of their own. -/
theorem carry_to (q1 r1 : Nat) (q r c : Int) (hq : (q1 : Int) = q + 1) (hr : (r1 : Int) = r - c) (h : c ≤ r) (q0 : 0 ≤ q) (q1' : q ≤ 9000000000000) (r0 : 0 ≤ r) (r1' : r ≤ 9000000000000) (c0 : 0 ≤ c) (w : World) :
    Calls Try.prog 43 #[.int .i64 q, .int .i64 r, .int .i64 c] w fun e w' => e = .returned (.tuple #[.int .i64 (q1 : Int), .int .i64 (r1 : Int)]) ∧ w' = w := by
  rw [hq, hr]
  exact carry_yes q r c h q0 q1' r0 r1' c0 w
theorem carry_no (q r c : Int) (h : r < c) (w : World) :
    Calls Try.prog 43 #[.int .i64 q, .int .i64 r, .int .i64 c] w fun e w' => e = .returned (.tuple #[.int .i64 q, .int .i64 r]) ∧ w' = w := by
  go_enter Try.func43, Try.ntmps43
  go_wp2
  go_ret2
  exact ⟨rfl, rfl⟩

theorem ofInt64 (a : Nat) (ha : a < 9223372036854775808) : (BitVec.ofInt 64 (a : Int)).toNat = a := by
  rw [BitVec.ofInt_natCast, BitVec.toNat_ofNat]
  exact Nat.mod_eq_of_lt (by omega)
theorem and64 (a b : Nat) (ha : a < 9223372036854775808) (hb : b < 9223372036854775808) : bits .and .i64 (a : Int) (b : Int) = ((a &&& b : Nat) : Int) := by
  have hx : a &&& b ≤ a := Nat.and_le_left
  show IntKind.i64.wrap ((BitVec.ofInt 64 (a : Int) &&& BitVec.ofInt 64 (b : Int)).toNat : Int) = _
  rw [BitVec.toNat_and, ofInt64 a ha, ofInt64 b hb]
  exact IntWalk.i64_in _ (by omega)
theorem and_pow (a j : Nat) : a &&& 2 ^ j = if a / 2 ^ j % 2 = 1 then 2 ^ j else 0 := by
  have ht : a.testBit j = decide (a / 2 ^ j % 2 = 1) := Nat.testBit_eq_decide_div_mod_eq
  apply Nat.eq_of_testBit_eq
  intro i
  rw [Nat.testBit_and, Nat.testBit_two_pow]
  by_cases h : a / 2 ^ j % 2 = 1
  · rw [if_pos h, Nat.testBit_two_pow]
    by_cases e : j = i
    · subst e; simp [ht, h]
    · simp [e]
  · rw [if_neg h, Nat.zero_testBit]
    by_cases e : j = i
    · subst e; simp [ht, h]
    · simp [e]

/-- The bits of a that are still to come: e is the next one. -/
def Next (a A e : Nat) : Prop := (∃ j, e = 2 ^ j ∧ j ≤ 40 ∧ A = a / 2 ^ (j + 1)) ∨ (e = 0 ∧ A = a)
theorem Next.start {a : Nat} (h : a ≤ 1000000000000) : Next a 0 1099511627776 :=
  Or.inl ⟨40, rfl, Nat.le_refl _, by rw [Nat.div_eq_of_lt (by omega)]⟩
theorem Next.le {a A e : Nat} (h : Next a A e) : e ≤ 1099511627776 ∧ A ≤ a := by
  rcases h with ⟨j, rfl, hj, rfl⟩ | ⟨rfl, rfl⟩
  · exact ⟨Nat.pow_le_pow_right (by decide) hj, Nat.div_le_self _ _⟩
  · omega
theorem Next.done {a A : Nat} (h : Next a A 0) : A = a := by
  rcases h with ⟨j, e, hj, _⟩ | ⟨_, rfl⟩
  · exact absurd e.symm (Nat.ne_of_gt (Nat.pow_pos (by decide)))
  · rfl
theorem Next.step {a A e : Nat} (h : Next a A e) (he : 0 < e) :
    (a &&& e = 0 ∧ Next a (2 * A) (e / 2)) ∨ (a &&& e = e ∧ Next a (2 * A + 1) (e / 2)) := by
  rcases h with ⟨j, rfl, hj, rfl⟩ | ⟨rfl, _⟩
  · rw [and_pow]
    have hA : a / 2 ^ (j + 1) = a / 2 ^ j / 2 := by rw [Nat.pow_succ, Nat.div_div_eq_div_mul]
    have hn : ∀ X, X = a / 2 ^ j → Next a X (2 ^ j / 2) := by
      rintro X rfl
      cases j with
      | zero => exact Or.inr ⟨by decide, by simp⟩
      | succ j => exact Or.inl ⟨j, by rw [Nat.pow_succ]; omega, by omega, rfl⟩
    by_cases hb : a / 2 ^ j % 2 = 1
    · right
      rw [if_pos hb]
      exact ⟨rfl, hn _ (by omega)⟩
    · left
      rw [if_neg hb]
      exact ⟨rfl, hn _ (by omega)⟩
  · omega

theorem over {a b c A q r : Nat} (hA : A ≤ a) (hc : 1 ≤ c) (h : A * b = q * c + r) (hq : 1000000000000 < q) : ¬ a * b / c ≤ 1000000000000 := by
  have h1 : A * b ≤ a * b := Nat.mul_le_mul_right b hA
  have : q ≤ a * b / c := (Nat.le_div_iff_mul_le (by omega)).2 (by omega)
  omega
theorem exact_q {a b c q r : Nat} (h : a * b = q * c + r) (hr : r < c) : a * b / c = q := by
  rw [h, Nat.mul_comm q c, Nat.mul_add_div (by omega), Nat.div_eq_of_lt hr]
  omega
theorem dbl0 {A b c q r : Nat} (h : A * b = q * c + r) : 2 * A * b = 2 * q * c + 2 * r := by
  rw [Nat.mul_assoc, Nat.mul_assoc, h]; omega
theorem dbl1 {A b c q r : Nat} (h : A * b = q * c + r) (g : c ≤ 2 * r) : 2 * A * b = (2 * q + 1) * c + (2 * r - c) := by
  rw [dbl0 h, Nat.add_mul, Nat.one_mul]; omega
theorem add0 {A b c q r x y : Nat} (h : A * b = q * c + r) (hb : b = x * c + y) : (A + 1) * b = (q + x) * c + (r + y) := by
  rw [Nat.add_mul, Nat.one_mul, h, Nat.add_mul]; omega
theorem add1 {A b c q r x y : Nat} (h : A * b = q * c + r) (hb : b = x * c + y) (g : c ≤ r + y) : (A + 1) * b = (q + x + 1) * c + (r + y - c) := by
  rw [add0 h hb, Nat.add_mul (q + x), Nat.one_mul]; omega

/-- What carry makes of a quotient and a remainder that may be too great by one. -/
theorem carry_nat (c q r : Nat) (hc : c ≤ 1000000000000) (hq : q ≤ 8000000000000) (hr : r < 2 * c) :
    ∃ q1 r1 : Nat, Hid (∀ w : World, Calls Try.prog 43 #[.int .i64 (q : Int), .int .i64 (r : Int), .int .i64 (c : Int)] w fun e w' => e = .returned (.tuple #[.int .i64 (q1 : Int), .int .i64 (r1 : Int)]) ∧ w' = w) ∧
      Hid (q * c + r = q1 * c + r1) ∧ r1 < c ∧ q1 ≤ q + 1 := by
  by_cases g : c ≤ r
  · refine ⟨q + 1, r - c, Lib.hid fun w => ?_, Lib.hid (by rw [Nat.add_mul, Nat.one_mul]; omega), by omega, by omega⟩
    exact carry_to (q + 1) (r - c) _ _ _ (by omega) (by omega) (by omega) (by omega) (by omega) (by omega) (by omega) (by omega) w
  · exact ⟨q, r, Lib.hid fun w => carry_no _ _ _ (by omega) w, Lib.hid rfl, by omega, by omega⟩

set_option maxHeartbeats 2000000 in
theorem rmulDiv_core (a b c x y : Nat) (ha : a ≤ 1000000000000) (hb : b ≤ 1000000000000) (hc : c ≤ 1000000000000) (hc0 : 1 ≤ c)
    (hx : (b : Int).tdiv (c : Int) = (x : Int)) (hy : (b : Int).tmod (c : Int) = (y : Int)) (hx2 : (b : Int) / (c : Int) = (x : Int)) (hy2 : (b : Int) % (c : Int) = (y : Int)) (hxy : Hid (b = x * c + y)) (hyc : y < c) (hxb : x ≤ 1000000000000)
    (V E : Int) (hV : Hid (V = if a * b / c ≤ 1000000000000 then ((a * b / c : Nat) : Int) else 0)) (hE : Hid (E = if a * b / c ≤ 1000000000000 then 0 else 8)) (w : World) :
    Calls Try.prog 28 #[.int .i64 (a : Int), .int .i64 (b : Int), .int .i64 (c : Int)] w fun e w' => e = pair V E ∧ Grown w w' := by
  have H : Hid (vld (a : Int) = true) := Lib.hid (vld_of (by omega) (by omega))
  have H2 : Hid (vld (b : Int) = true) := Lib.hid (vld_of (by omega) (by omega))
  have H3 : Hid (vld (c : Int) = true) := Lib.hid (vld_of (by omega) (by omega))
  have hcb : ((c : Int) == 0) = false := by rw [beq_eq_false_iff_ne]; omega
  unfold pair
  go_enter Try.func28, Try.ntmps28
  go_wp2_with (go_at_call 14; refine (rvalid_any _ _).mono ?_; rintro e w' ⟨rfl, rfl⟩; first | rw [H.out] | rw [H2.out] | rw [H3.out])
  go_loopw [8, 9, 10] (fun sq sr sb wr => ∃ (q r A e : Nat), sq = .int .i64 (q : Int) ∧ sr = .int .i64 (r : Int) ∧ sb = .int .i64 (e : Int) ∧ r < c ∧ q ≤ 1000000000000 ∧ e ≤ 1099511627776 ∧ Hid (A * b = q * c + r) ∧ Hid (Next a A e) ∧ Grown w wr) (fun _ _ sb _ => (intOf sb).toNat)
  case atStart => exact ⟨0, 0, 0, 1099511627776, rfl, rfl, rfl, by omega, by omega, by omega, Lib.hid (by simp), Lib.hid (Next.start ha), Grown.refl _⟩
  case round =>
    obtain ⟨q, r, A, e, rfl, rfl, rfl, hr, hq, he, hinv, hnext, hg⟩ := hrel
    by_cases he0 : 0 < e
    · have hand := and64 a e (by omega) (by omega)
      obtain ⟨q1, r1, c1, i1, l1, b1⟩ := carry_nat c (2 * q) (2 * r) hc (by omega) (by omega)
      have hd1 := dbl0 hinv.out
      rw [i1.out] at hd1
      have HI1 := Lib.hid hd1
      have hc1 := c1.out
      rw [show ((2 * q : Nat) : Int) = 2 * (q : Int) from by omega, show ((2 * r : Nat) : Int) = 2 * (r : Int) from by omega] at hc1
      have HC1 := Lib.hid hc1
      clear hd1 hc1 c1 i1
      rcases hnext.out.step he0 with ⟨hz, hn⟩ | ⟨hz, hn⟩
      · rw [hz] at hand
        have HN := Lib.hid hn
        have hle := Lib.hid hn.le.2
        clear hz hn
        by_cases g2 : q1 ≤ 1000000000000
        · go_wp2_with (go_at_call 43; refine (HC1.out _).mono ?_; rintro e w' ⟨rfl, rfl⟩)
          go_roundw
          case rel => exact ⟨q1, r1, 2 * A, e / 2, rfl, rfl, by go_num, l1, g2, by omega, HI1, HN, hg⟩
          case measure => simp [intOf]; omega
        · have ho := Lib.hid (over hle.out hc0 HI1.out (by omega))
          go_wp2_with (go_at_call 43; refine (HC1.out _).mono ?_; rintro e w' ⟨rfl, rfl⟩)
          go_ret2
          exact ⟨by rw [hV.out, hE.out, if_neg ho.out, if_neg ho.out]; rfl, hg⟩
      · rw [hz] at hand
        have HN := Lib.hid hn
        have hle := Lib.hid hn.le.2
        clear hz hn
        obtain ⟨q2, r2, c2, i2, l2, b2⟩ := carry_nat c (q1 + x) (r1 + y) hc (by omega) (by omega)
        have hd2 := add0 HI1.out hxy.out
        rw [i2.out] at hd2
        have HI2 := Lib.hid hd2
        have e1 : IntKind.i64.wrap ((q1 : Int) + (x : Int)) = ((q1 + x : Nat) : Int) := IntWalk.i64_in _ (by omega)
        have e2 : IntKind.i64.wrap ((r1 : Int) + (y : Int)) = ((r1 + y : Nat) : Int) := IntWalk.i64_in _ (by omega)
        have e3 : IntKind.i64.wrap ((b : Int).tdiv (c : Int)) = (x : Int) := by rw [hx]; exact IntWalk.i64_in _ (by omega)
        have e4 : IntKind.i64.wrap ((b : Int).tmod (c : Int)) = (y : Int) := by rw [hy]; exact IntWalk.i64_in _ (by omega)
        generalize hq2 : q1 + x = s at *
        generalize hr2 : r1 + y = t at *
        clear hd2 i2 hq2 hr2
        by_cases g2 : q2 ≤ 1000000000000
        · go_wp2_with (go_at_call 43; refine (HC1.out _).mono ?_; rintro e w' ⟨rfl, rfl⟩)
          go_quiet ((go_at_call 43; exact Calls.quiet_of_same (c2.out _)))
          go_wp2
          go_roundw
          case rel => exact ⟨q2, r2, 2 * A + 1, e / 2, rfl, rfl, by go_num, l2, g2, by omega, HI2, HN, hg⟩
          case measure => simp [intOf]; omega
        · have ho := Lib.hid (over hle.out hc0 HI2.out (by omega))
          go_wp2_with (go_at_call 43; refine (HC1.out _).mono ?_; rintro e w' ⟨rfl, rfl⟩)
          go_quiet ((go_at_call 43; exact Calls.quiet_of_same (c2.out _)))
          go_wp2
          go_ret2
          exact ⟨by rw [hV.out, hE.out, if_neg ho.out, if_neg ho.out]; rfl, hg⟩
    · obtain rfl : e = 0 := by omega
      have hA := hnext.out.done
      subst hA
      have hqq := exact_q hinv.out hr
      have HQ := Lib.hid hqq
      clear hqq
      go_wp2
      go_ret2
      exact ⟨by rw [hV.out, hE.out, HQ.out, if_pos hq, if_pos hq]; rfl, hg⟩

theorem amt_not {n : Int} (h : amt n = false) (hv : vld n = true) : n < 0 := by
  have := vld_true hv
  rcases Int.lt_or_le n 0 with g | g
  · exact g
  · rw [amt_of g this.2] at h; exact absurd h (by decide)
theorem rmulDiv_bad (a b c : Int) (h : (amt a && amt b && amt c) = false) (w : World) :
    Calls Try.prog 28 #[.int .i64 a, .int .i64 b, .int .i64 c] w fun e w' => e = pair 0 2 ∧ Grown w w' := by
  unfold pair
  cases ha : vld a
  · have A := Lib.hid ha
    clear ha h
    go_enter Try.func28, Try.ntmps28
    go_wp2_with (go_at_call 14; refine (rvalid_any _ _).mono ?_; rintro e w' ⟨rfl, rfl⟩; rw [A.out])
    go_ret2
    exact ⟨rfl, Grown.refl _⟩
  cases hb : vld b
  · have A := Lib.hid ha
    have B := Lib.hid hb
    clear ha hb h
    go_enter Try.func28, Try.ntmps28
    go_wp2_with (go_at_call 14; refine (rvalid_any _ _).mono ?_; rintro e w' ⟨rfl, rfl⟩; first | rw [A.out] | rw [B.out])
    go_ret2
    exact ⟨rfl, Grown.refl _⟩
  cases hc : vld c
  · have A := Lib.hid ha
    have B := Lib.hid hb
    have C := Lib.hid hc
    clear ha hb hc h
    go_enter Try.func28, Try.ntmps28
    go_wp2_with (go_at_call 14; refine (rvalid_any _ _).mono ?_; rintro e w' ⟨rfl, rfl⟩; first | rw [A.out] | rw [B.out] | rw [C.out])
    go_ret2
    exact ⟨rfl, Grown.refl _⟩
  have A := Lib.hid ha
  have B := Lib.hid hb
  have C := Lib.hid hc
  cases h1 : amt a
  · have g := amt_not h1 ha
    clear ha hb hc h h1
    go_enter Try.func28, Try.ntmps28
    go_wp2_with (go_at_call 14; refine (rvalid_any _ _).mono ?_; rintro e w' ⟨rfl, rfl⟩; first | rw [A.out] | rw [B.out] | rw [C.out])
    go_ret2
    exact ⟨rfl, Grown.refl _⟩
  have g := (amt_true h1).1
  cases h2 : amt b
  · have g2 := amt_not h2 hb
    clear ha hb hc h h1 h2
    go_enter Try.func28, Try.ntmps28
    go_wp2_with (go_at_call 14; refine (rvalid_any _ _).mono ?_; rintro e w' ⟨rfl, rfl⟩; first | rw [A.out] | rw [B.out] | rw [C.out])
    go_ret2
    exact ⟨rfl, Grown.refl _⟩
  have g2 := (amt_true h2).1
  have h3 : amt c = false := by simpa [h1, h2] using h
  have g3 := amt_not h3 hc
  clear ha hb hc h h1 h2 h3
  go_enter Try.func28, Try.ntmps28
  go_wp2_with (go_at_call 14; refine (rvalid_any _ _).mono ?_; rintro e w' ⟨rfl, rfl⟩; first | rw [A.out] | rw [B.out] | rw [C.out])
  go_ret2
  exact ⟨rfl, Grown.refl _⟩
theorem rmulDiv_zero (a b : Int) (ha : amt a = true) (hb : amt b = true) (w : World) :
    Calls Try.prog 28 #[.int .i64 a, .int .i64 b, .int .i64 0] w fun e w' => e = pair 0 9 ∧ Grown w w' := by
  unfold pair
  obtain ⟨a0, a1⟩ := amt_true ha
  obtain ⟨b0, b1⟩ := amt_true hb
  have A : Hid (vld a = true) := Lib.hid (vld_of (by omega) (by omega))
  have B : Hid (vld b = true) := Lib.hid (vld_of (by omega) (by omega))
  have C : Hid (vld 0 = true) := Lib.hid rfl
  clear ha hb
  go_enter Try.func28, Try.ntmps28
  go_wp2_with (go_at_call 14; refine (rvalid_any _ _).mono ?_; rintro e w' ⟨rfl, rfl⟩; first | rw [A.out] | rw [B.out] | rw [C.out])
  go_ret2
  exact ⟨rfl, Grown.refl _⟩
theorem rmulDiv_any (a b c : Int) (w : World) :
    Calls Try.prog 28 #[.int .i64 a, .int .i64 b, .int .i64 c] w fun e w' => e = pair (mdV a b c) (mdE a b c) ∧ Grown w w' := by
  unfold mdV mdE
  cases h : (amt a && amt b && amt c)
  · exact rmulDiv_bad a b c h w
  · obtain ⟨⟨ha, hb⟩, hc⟩ : (amt a = true ∧ amt b = true) ∧ amt c = true := by simpa using h
    by_cases hz : c = 0
    · subst hz
      exact rmulDiv_zero a b ha hb w
    · obtain ⟨a0, a1⟩ := amt_true ha
      obtain ⟨b0, b1⟩ := amt_true hb
      obtain ⟨c0, c1⟩ := amt_true hc
      obtain ⟨a, rfl⟩ := Int.eq_ofNat_of_zero_le a0
      obtain ⟨b, rfl⟩ := Int.eq_ofNat_of_zero_le b0
      obtain ⟨c, rfl⟩ := Int.eq_ofNat_of_zero_le c0
      rw [if_neg hz, if_neg hz]
      have hcp : 1 ≤ c := by omega
      have e : (a : Int) * (b : Int) / (c : Int) = ((a * b / c : Nat) : Int) := by rw [Int.natCast_ediv, Int.natCast_mul]
      have hd : (b : Int) / (c : Int) = ((b / c : Nat) : Int) := by rw [Int.natCast_ediv]
      have hm : (b : Int) % (c : Int) = ((b % c : Nat) : Int) := by rw [Int.natCast_emod]
      have hxy : b = b / c * c + b % c := by rw [Nat.mul_comm]; exact (Nat.div_add_mod b c).symm
      have hxb : b / c ≤ b := Nat.div_le_self b c
      refine rmulDiv_core a b c (b / c) (b % c) (by omega) (by omega) (by omega) hcp
        (by rw [Int.tdiv_eq_ediv_of_nonneg (by omega), hd]) (by rw [Int.tmod_eq_emod_of_nonneg (by omega), hm]) hd hm (Lib.hid hxy) (Nat.mod_lt _ hcp) (by omega) _ _ (Lib.hid ?_) (Lib.hid ?_) w
      · rw [e]
        by_cases g : a * b / c ≤ 1000000000000
        · have g' : ((a * b / c : Nat) : Int) ≤ 1000000000000 := by omega
          simp only [if_pos g, if_pos g', if_true]
        · have g' : ¬ ((a * b / c : Nat) : Int) ≤ 1000000000000 := by omega
          simp only [if_neg g, if_neg g', if_true]
      · rw [e]
        by_cases g : a * b / c ≤ 1000000000000
        · have g' : ((a * b / c : Nat) : Int) ≤ 1000000000000 := by omega
          simp only [if_pos g, if_pos g', if_true]
        · have g' : ¬ ((a * b / c : Nat) : Int) ≤ 1000000000000 := by omega
          simp only [if_neg g, if_neg g', if_true]

end Num
end Go.Proofs.Ytiailoglcmidoaa
