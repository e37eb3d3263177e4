/-
  Contracts of the plain functions of package num and of its reference: which integer or error each one returns.
-/
import Derived.Test.YtiailoglcmidoaaRows
import Derived.WalkKit
import Derived.Lib.Hide
import Derived.Deep.QuietTactic
import Derived.BigQuiet
import Derived.RowKit3
namespace Go.Proofs.Ytiailoglcmidoaa
open Go.RowKit
namespace Num

/-- A valid integer. -/
def vld (n : Int) : Bool := decide (-1000000000000 ≤ n ∧ n ≤ 1000000000000)
theorem vld_true {n : Int} (h : vld n = true) : -1000000000000 ≤ n ∧ n ≤ 1000000000000 := of_decide_eq_true h
theorem vld_false {n : Int} (h : vld n = false) : ¬ (-1000000000000 ≤ n ∧ n ≤ 1000000000000) := of_decide_eq_false h
theorem vld_of {n : Int} (h1 : -1000000000000 ≤ n) (h2 : n ≤ 1000000000000) : vld n = true := decide_eq_true ⟨h1, h2⟩
theorem vld_not {n : Int} (h : ¬ (-1000000000000 ≤ n ∧ n ≤ 1000000000000)) : vld n = false := decide_eq_false h

theorem valid_any (n : Int) (w : World) :
    Calls Try.prog 13 #[.int .i64 n] w fun e w' => e = .returned (.bool (vld n)) ∧ w = w' := by
  unfold vld
  by_cases h1 : -1000000000000 ≤ n
  · go_enter Try.func13, Try.ntmps13
    go_wp2
    go_ret
    exact ⟨by simp [h1], rfl⟩
  · have h1' : n < -1000000000000 := by omega
    go_enter Try.func13, Try.ntmps13
    go_wp2
    go_ret
    exact ⟨by simp; omega, rfl⟩
theorem rvalid_any (n : Int) (w : World) :
    Calls Try.prog 14 #[.int .i64 n] w fun e w' => e = .returned (.bool (vld n)) ∧ w = w' := by
  unfold vld
  by_cases h1 : -1000000000000 ≤ n
  · go_enter Try.func14, Try.ntmps14
    go_wp2
    go_ret
    exact ⟨by simp [h1], rfl⟩
  · have h1' : n < -1000000000000 := by omega
    go_enter Try.func14, Try.ntmps14
    go_wp2
    go_ret
    exact ⟨by simp; omega, rfl⟩
/-- An integer that is valid and not negative. -/
def amt (n : Int) : Bool := decide (0 ≤ n) && decide (n ≤ 1000000000000)
theorem amt_true {n : Int} (h : amt n = true) : 0 ≤ n ∧ n ≤ 1000000000000 := by simpa [amt] using h
theorem amt_of {n : Int} (h1 : 0 ≤ n) (h2 : n ≤ 1000000000000) : amt n = true := by simp [amt, h1, h2]
theorem isAmount_any (n : Int) (w : World) :
    Calls Try.prog 40 #[.int .i64 n] w fun e w' => e = .returned (.bool (amt n)) ∧ w = w' := by
  unfold amt
  by_cases h1 : 0 ≤ n
  · go_enter Try.func40, Try.ntmps40
    go_wp2
    go_ret
    exact ⟨by simp [h1], rfl⟩
  · have h1' : n < 0 := by omega
    go_enter Try.func40, Try.ntmps40
    go_wp2
    go_ret
    exact ⟨by simp; omega, rfl⟩

/-- A pair of an integer and an error. -/
def pair (n e : Int) : Ending := .returned (.tuple #[.int .i64 n, .int .i64 e])
def trip (n m e : Int) : Ending := .returned (.tuple #[.int .i64 n, .int .i64 m, .int .i64 e])

/-- What checked returns. -/
def chk (n : Int) : Int := if vld n then n else 0
def chkE (n : Int) : Int := if vld n then 0 else 8
theorem checked_any (n : Int) (w : World) :
    Calls Try.prog 37 #[.int .i64 n] w fun e w' => e = pair (chk n) (chkE n) ∧ w = w' := by
  unfold chk chkE pair
  cases hv : vld n
  all_goals
    have H := Lib.hid hv
    clear hv
    go_enter Try.func37, Try.ntmps37
    go_wp2_with (go_at_call 13; refine (valid_any _ _).mono ?_; rintro e w' ⟨rfl, rfl⟩; rw [H.out])
    go_ret2
    exact ⟨rfl, rfl⟩
theorem result_any (n : Int) (w : World) :
    Calls Try.prog 38 #[.int .i64 n] w fun e w' => e = pair (chk n) (chkE n) ∧ w = w' := by
  unfold chk chkE pair
  cases hv : vld n
  all_goals
    have H := Lib.hid hv
    clear hv
    go_enter Try.func38, Try.ntmps38
    go_wp2_with (go_at_call 14; refine (rvalid_any _ _).mono ?_; rintro e w' ⟨rfl, rfl⟩; rw [H.out])
    go_ret2
    exact ⟨rfl, rfl⟩

def addV (a b : Int) : Int := if vld a && vld b then chk (a + b) else 0
def addE (a b : Int) : Int := if vld a && vld b then chkE (a + b) else 2
theorem add_any (a b : Int) (w : World) :
    Calls Try.prog 17 #[.int .i64 a, .int .i64 b] w fun e w' => e = pair (addV a b) (addE a b) ∧ w = w' := by
  unfold addV addE pair
  cases ha : vld a
  · have H := Lib.hid ha
    clear ha
    go_enter Try.func17, Try.ntmps17
    go_wp2_with (go_at_call 13; refine (valid_any _ _).mono ?_; rintro e w' ⟨rfl, rfl⟩; rw [H.out])
    go_ret2
    exact ⟨rfl, rfl⟩
  cases hb : vld b
  · have H := Lib.hid ha
    have H2 := Lib.hid hb
    clear ha hb
    go_enter Try.func17, Try.ntmps17
    go_wp2_with (go_at_call 13; refine (valid_any _ _).mono ?_; rintro e w' ⟨rfl, rfl⟩; first | rw [H.out] | rw [H2.out])
    go_ret2
    exact ⟨rfl, rfl⟩
  · have ba := vld_true ha
    have bb := vld_true hb
    obtain ⟨a1, a2⟩ := ba
    obtain ⟨b1, b2⟩ := bb
    have H := Lib.hid ha
    have H2 := Lib.hid hb
    clear ha hb
    go_enter Try.func17, Try.ntmps17
    go_wp2_with (first | (go_at_call 13; refine (valid_any _ _).mono ?_; rintro e w' ⟨rfl, rfl⟩; first | rw [H.out] | rw [H2.out]) | (go_at_call 37; refine (checked_any _ _).mono ?_; rintro e w' ⟨rfl, rfl⟩; unfold pair))
    go_ret2
    exact ⟨rfl, rfl⟩

/-- The amount of an integer. -/
def abz (n : Int) : Int := if n < 0 then -n else n
theorem abz_neg {n : Int} (h : n < 0) : abz n = -n := if_pos h
theorem abz_pos {n : Int} (h : ¬ n < 0) : abz n = n := if_neg h
theorem wf_bd {n : Int} (w0 : (Lit.int .i64 n).wf = true) : -9223372036854775808 ≤ n ∧ n ≤ 9223372036854775807 := by
  have h : (decide ((-9223372036854775808 : Int) ≤ n) && decide (n ≤ (9223372036854775807 : Int))) = true := w0
  simpa using h
theorem amount_any (n : Int) (h1 : -9223372036854775808 ≤ n) (h2 : n ≤ 9223372036854775807) (w : World) :
    Calls Try.prog 35 #[.int .i64 n] w fun e w' => e = .returned (.int .u64 (abz n)) ∧ w = w' := by
  by_cases h : n < 0
  · rw [abz_neg h]
    go_enter Try.func35, Try.ntmps35
    go_wp2
    go_ret
    refine ⟨?_, rfl⟩
    have e : IntKind.u64.wrap (-IntKind.u64.wrap n) = -n := by rw [IntKind.wrap_u64, IntKind.wrap_u64]; omega
    simp [e]
  · rw [abz_pos h]
    go_enter Try.func35, Try.ntmps35
    go_wp2
    go_ret
    exact ⟨by simp, rfl⟩
theorem abz_vld {a : Int} (h : vld a = true) : 0 ≤ abz a ∧ abz a ≤ 1000000000000 := by
  have := vld_true h; unfold abz; split <;> omega
theorem ramount_any (n : Int) (h1 : -9223372036854775807 ≤ n) (h2 : n ≤ 9223372036854775807) (w : World) :
    Calls Try.prog 39 #[.int .i64 n] w fun e w' => e = .returned (.int .i64 (abz n)) ∧ w = w' := by
  by_cases h : n < 0
  · rw [abz_neg h]
    go_enter Try.func39, Try.ntmps39
    go_wp2
    go_ret
    exact ⟨by simp, rfl⟩
  · rw [abz_pos h]
    go_enter Try.func39, Try.ntmps39
    go_wp2
    go_ret
    exact ⟨by simp, rfl⟩

/-- The test of Mul agrees with the product's own size. -/
theorem mul_test {a b : Int} (h : a ≠ 0) : 1000000000000 / abz a < abz b ↔ vld (a * b) = false := by
  have e : abz (a * b) = abz a * abz b := by
    unfold abz
    by_cases ha : a < 0 <;> by_cases hb : b < 0
    · have : ¬ a * b < 0 := by have := Int.mul_pos_of_neg_of_neg ha hb; omega
      simp [ha, hb, this, Int.neg_mul_neg]
    · by_cases hz : b = 0
      · subst hz; simp
      · have : a * b < 0 := Int.mul_neg_of_neg_of_pos ha (by omega)
        simp [ha, hb, this, Int.neg_mul]
    · have : a * b < 0 := Int.mul_neg_of_pos_of_neg (by omega) hb
      simp [ha, hb, this, Int.mul_neg]
    · have : ¬ a * b < 0 := by have := Int.mul_nonneg (a := a) (b := b) (by omega) (by omega); omega
      simp [ha, hb, this]
  have p : 0 < abz a := by unfold abz; split <;> omega
  have q : vld (a * b) = false ↔ 1000000000000 < abz (a * b) := by
    unfold vld abz; rw [decide_eq_false_iff_not]; split <;> omega
  rw [q, e]
  constructor
  · intro h; have := (Int.ediv_lt_iff_lt_mul p).1 h; rw [Int.mul_comm] at this; exact this
  · intro h; apply (Int.ediv_lt_iff_lt_mul p).2; rw [Int.mul_comm]; exact h

def mulV (a b : Int) : Int := if vld a && vld b then chk (a * b) else 0
def mulE (a b : Int) : Int := if vld a && vld b then chkE (a * b) else 2
theorem mul_any (a b : Int) (w : World) :
    Calls Try.prog 19 #[.int .i64 a, .int .i64 b] w fun e w' => e = pair (mulV a b) (mulE a b) ∧ w = w' := by
  unfold mulV mulE pair
  cases ha : vld a
  · have H := Lib.hid ha
    clear ha
    go_enter Try.func19, Try.ntmps19
    go_wp2_with (go_at_call 13; refine (valid_any _ _).mono ?_; rintro e w' ⟨rfl, rfl⟩; rw [H.out])
    go_ret2
    exact ⟨rfl, rfl⟩
  cases hb : vld b
  · have H := Lib.hid ha
    have H2 := Lib.hid hb
    clear ha hb
    go_enter Try.func19, Try.ntmps19
    go_wp2_with (go_at_call 13; refine (valid_any _ _).mono ?_; rintro e w' ⟨rfl, rfl⟩; first | rw [H.out] | rw [H2.out])
    go_ret2
    exact ⟨rfl, rfl⟩
  by_cases hz : a = 0
  · subst hz
    have H := Lib.hid ha
    have H2 := Lib.hid hb
    obtain ⟨b1, b2⟩ := vld_true hb
    clear ha hb
    go_enter Try.func19, Try.ntmps19
    go_wp2_with (go_at_call 13; refine (valid_any _ _).mono ?_; rintro e w' ⟨rfl, rfl⟩; first | rw [H.out] | rw [H2.out])
    go_ret2
    exact ⟨by simp [chk, chkE, vld], rfl⟩
  have ht := mul_test (b := b) hz
  obtain ⟨a1, a2⟩ := vld_true ha
  obtain ⟨b1, b2⟩ := vld_true hb
  obtain ⟨c1, c2⟩ := abz_vld ha
  obtain ⟨d1, d2⟩ := abz_vld hb
  have c3 : 1 ≤ abz a := by unfold abz; split <;> omega
  have hzb : (a != 0) = true := by simpa using hz
  cases hv : vld (a * b)
  · have g : 1000000000000 / abz a < abz b := ht.2 hv
    have H := Lib.hid ha
    have H2 := Lib.hid hb
    have H3 := Lib.hid hv
    clear ha hb hv ht
    go_enter Try.func19, Try.ntmps19
    go_wp2_with (first | (go_at_call 13; refine (valid_any _ _).mono ?_; rintro e w' ⟨rfl, rfl⟩; first | rw [H.out] | rw [H2.out]) | (go_at_call 35; refine (amount_any _ (by omega) (by omega) _).mono ?_; rintro e w' ⟨rfl, rfl⟩))
    go_ret2
    exact ⟨by simp [chk, chkE, H3.out], rfl⟩
  · have g : ¬ 1000000000000 / abz a < abz b := fun h => by simp [ht.1 h] at hv
    obtain ⟨p1, p2⟩ := vld_true hv
    have g' : abz b ≤ 1000000000000 / abz a := by omega
    have H := Lib.hid ha
    have H2 := Lib.hid hb
    have H3 := Lib.hid hv
    clear ha hb hv ht
    go_enter Try.func19, Try.ntmps19
    go_wp2_with (first | (go_at_call 13; refine (valid_any _ _).mono ?_; rintro e w' ⟨rfl, rfl⟩; first | rw [H.out] | rw [H2.out]) | (go_at_call 35; refine (amount_any _ (by omega) (by omega) _).mono ?_; rintro e w' ⟨rfl, rfl⟩))
    go_ret2
    exact ⟨by simp [chk, chkE, H3.out], rfl⟩

def subV (a b : Int) : Int := if vld a && vld b then chk (a - b) else 0
def subE (a b : Int) : Int := if vld a && vld b then chkE (a - b) else 2

theorem sub_any (a b : Int) (w : World) :
    Calls Try.prog 18 #[.int .i64 a, .int .i64 b] w fun e w' => e = pair (subV a b) (subE a b) ∧ w = w' := by
  unfold subV subE pair
  cases ha : vld a
  · have H := Lib.hid ha
    clear ha
    go_enter Try.func18, Try.ntmps18
    go_wp2_with (go_at_call 13; refine (valid_any _ _).mono ?_; rintro e w' ⟨rfl, rfl⟩; rw [H.out])
    go_ret2
    exact ⟨rfl, rfl⟩
  cases hb : vld b
  · have H := Lib.hid ha
    have H2 := Lib.hid hb
    clear ha hb
    go_enter Try.func18, Try.ntmps18
    go_wp2_with (go_at_call 13; refine (valid_any _ _).mono ?_; rintro e w' ⟨rfl, rfl⟩; first | rw [H.out] | rw [H2.out])
    go_ret2
    exact ⟨rfl, rfl⟩
  · have ba := vld_true ha
    have bb := vld_true hb
    obtain ⟨a1, a2⟩ := ba
    obtain ⟨b1, b2⟩ := bb
    have H := Lib.hid ha
    have H2 := Lib.hid hb
    clear ha hb
    go_enter Try.func18, Try.ntmps18
    go_wp2_with (first | (go_at_call 13; refine (valid_any _ _).mono ?_; rintro e w' ⟨rfl, rfl⟩; first | rw [H.out] | rw [H2.out]) | (go_at_call 37; refine (checked_any _ _).mono ?_; rintro e w' ⟨rfl, rfl⟩; unfold pair))
    go_ret2
    exact ⟨rfl, rfl⟩

theorem radd_any (a b : Int) (w : World) :
    Calls Try.prog 20 #[.int .i64 a, .int .i64 b] w fun e w' => e = pair (addV a b) (addE a b) ∧ w = w' := by
  unfold addV addE pair
  cases ha : vld a
  · have H := Lib.hid ha
    clear ha
    go_enter Try.func20, Try.ntmps20
    go_wp2_with (go_at_call 14; refine (rvalid_any _ _).mono ?_; rintro e w' ⟨rfl, rfl⟩; rw [H.out])
    go_ret2
    exact ⟨rfl, rfl⟩
  cases hb : vld b
  · have H := Lib.hid ha
    have H2 := Lib.hid hb
    clear ha hb
    go_enter Try.func20, Try.ntmps20
    go_wp2_with (go_at_call 14; refine (rvalid_any _ _).mono ?_; rintro e w' ⟨rfl, rfl⟩; first | rw [H.out] | rw [H2.out])
    go_ret2
    exact ⟨rfl, rfl⟩
  · have ba := vld_true ha
    have bb := vld_true hb
    obtain ⟨a1, a2⟩ := ba
    obtain ⟨b1, b2⟩ := bb
    have H := Lib.hid ha
    have H2 := Lib.hid hb
    clear ha hb
    go_enter Try.func20, Try.ntmps20
    go_wp2_with (first | (go_at_call 14; refine (rvalid_any _ _).mono ?_; rintro e w' ⟨rfl, rfl⟩; first | rw [H.out] | rw [H2.out]) | (go_at_call 38; refine (result_any _ _).mono ?_; rintro e w' ⟨rfl, rfl⟩; unfold pair))
    go_ret2
    exact ⟨rfl, rfl⟩

theorem rsub_any (a b : Int) (w : World) :
    Calls Try.prog 21 #[.int .i64 a, .int .i64 b] w fun e w' => e = pair (subV a b) (subE a b) ∧ w = w' := by
  unfold subV subE pair
  cases ha : vld a
  · have H := Lib.hid ha
    clear ha
    go_enter Try.func21, Try.ntmps21
    go_wp2_with (go_at_call 14; refine (rvalid_any _ _).mono ?_; rintro e w' ⟨rfl, rfl⟩; rw [H.out])
    go_ret2
    exact ⟨rfl, rfl⟩
  cases hb : vld b
  · have H := Lib.hid ha
    have H2 := Lib.hid hb
    clear ha hb
    go_enter Try.func21, Try.ntmps21
    go_wp2_with (go_at_call 14; refine (rvalid_any _ _).mono ?_; rintro e w' ⟨rfl, rfl⟩; first | rw [H.out] | rw [H2.out])
    go_ret2
    exact ⟨rfl, rfl⟩
  · have ba := vld_true ha
    have bb := vld_true hb
    obtain ⟨a1, a2⟩ := ba
    obtain ⟨b1, b2⟩ := bb
    have H := Lib.hid ha
    have H2 := Lib.hid hb
    clear ha hb
    go_enter Try.func21, Try.ntmps21
    go_wp2_with (first | (go_at_call 14; refine (rvalid_any _ _).mono ?_; rintro e w' ⟨rfl, rfl⟩; first | rw [H.out] | rw [H2.out]) | (go_at_call 38; refine (result_any _ _).mono ?_; rintro e w' ⟨rfl, rfl⟩; unfold pair))
    go_ret2
    exact ⟨rfl, rfl⟩

theorem rmul_any (a b : Int) (w : World) :
    Calls Try.prog 22 #[.int .i64 a, .int .i64 b] w fun e w' => e = pair (mulV a b) (mulE a b) ∧ w = w' := by
  unfold mulV mulE pair
  cases ha : vld a
  · have H := Lib.hid ha
    clear ha
    go_enter Try.func22, Try.ntmps22
    go_wp2_with (go_at_call 14; refine (rvalid_any _ _).mono ?_; rintro e w' ⟨rfl, rfl⟩; rw [H.out])
    go_ret2
    exact ⟨rfl, rfl⟩
  cases hb : vld b
  · have H := Lib.hid ha
    have H2 := Lib.hid hb
    clear ha hb
    go_enter Try.func22, Try.ntmps22
    go_wp2_with (go_at_call 14; refine (rvalid_any _ _).mono ?_; rintro e w' ⟨rfl, rfl⟩; first | rw [H.out] | rw [H2.out])
    go_ret2
    exact ⟨rfl, rfl⟩
  by_cases hz : a = 0
  · subst hz
    have H := Lib.hid ha
    have H2 := Lib.hid hb
    obtain ⟨b1, b2⟩ := vld_true hb
    clear ha hb
    go_enter Try.func22, Try.ntmps22
    go_wp2_with (first | (go_at_call 14; refine (rvalid_any _ _).mono ?_; rintro e w' ⟨rfl, rfl⟩; first | rw [H.out] | rw [H2.out]) | (go_at_call 38; refine (result_any _ _).mono ?_; rintro e w' ⟨rfl, rfl⟩; unfold pair))
    go_ret2
    exact ⟨by simp [chk, chkE, vld], rfl⟩
  have ht := mul_test (b := b) hz
  obtain ⟨a1, a2⟩ := vld_true ha
  obtain ⟨b1, b2⟩ := vld_true hb
  obtain ⟨c1, c2⟩ := abz_vld ha
  obtain ⟨d1, d2⟩ := abz_vld hb
  have c3 : 1 ≤ abz a := by unfold abz; split <;> omega
  have hzb : (a != 0) = true := by simpa using hz
  cases hv : vld (a * b)
  · have g : 1000000000000 / abz a < abz b := ht.2 hv
    have H := Lib.hid ha
    have H2 := Lib.hid hb
    have H3 := Lib.hid hv
    clear ha hb hv ht
    go_enter Try.func22, Try.ntmps22
    go_wp2_with (first | (go_at_call 14; refine (rvalid_any _ _).mono ?_; rintro e w' ⟨rfl, rfl⟩; first | rw [H.out] | rw [H2.out]) | (go_at_call 38; refine (result_any _ _).mono ?_; rintro e w' ⟨rfl, rfl⟩; unfold pair) | (go_at_call 39; refine (ramount_any _ (by omega) (by omega) _).mono ?_; rintro e w' ⟨rfl, rfl⟩))
    go_ret2
    exact ⟨by simp [chk, chkE, H3.out], rfl⟩
  · have g : ¬ 1000000000000 / abz a < abz b := fun h => by simp [ht.1 h] at hv
    obtain ⟨p1, p2⟩ := vld_true hv
    have g' : abz b ≤ 1000000000000 / abz a := by omega
    have H := Lib.hid ha
    have H2 := Lib.hid hb
    have H3 := Lib.hid hv
    clear ha hb hv ht
    go_enter Try.func22, Try.ntmps22
    go_wp2_with (first | (go_at_call 14; refine (rvalid_any _ _).mono ?_; rintro e w' ⟨rfl, rfl⟩; first | rw [H.out] | rw [H2.out]) | (go_at_call 38; refine (result_any _ _).mono ?_; rintro e w' ⟨rfl, rfl⟩; unfold pair) | (go_at_call 39; refine (ramount_any _ (by omega) (by omega) _).mono ?_; rintro e w' ⟨rfl, rfl⟩))
    go_ret2
    exact ⟨by simp [chk, chkE, H3.out], rfl⟩

def clampV (n low high : Int) : Int := if n < low then low else if high < n then high else n

theorem clamp_any (n low high : Int) (w : World) :
    Calls Try.prog 30 #[.int .i64 n, .int .i64 low, .int .i64 high] w fun e w' => e = .returned (.int .i64 (clampV n low high)) ∧ w = w' := by
  by_cases h : n < low
  · have e : clampV n low high = low := by simp [clampV, h]
    rw [e]
    clear e
    go_enter Try.func30, Try.ntmps30
    go_wp2
    go_ret
    exact ⟨rfl, rfl⟩
  by_cases h2 : high < n
  · have e : clampV n low high = high := by simp [clampV, h, h2]
    rw [e]
    clear e
    go_enter Try.func30, Try.ntmps30
    go_wp2
    go_ret
    exact ⟨rfl, rfl⟩
  · have e : clampV n low high = n := by simp [clampV, h, h2]
    rw [e]
    clear e
    go_enter Try.func30, Try.ntmps30
    go_wp2
    go_ret
    exact ⟨rfl, rfl⟩

theorem rclamp_any (n low high : Int) (w : World) :
    Calls Try.prog 31 #[.int .i64 n, .int .i64 low, .int .i64 high] w fun e w' => e = .returned (.int .i64 (clampV n low high)) ∧ w = w' := by
  by_cases h : n < low
  · have e : clampV n low high = low := by simp [clampV, h]
    rw [e]
    clear e
    go_enter Try.func31, Try.ntmps31
    go_wp2
    go_ret
    exact ⟨rfl, rfl⟩
  by_cases h2 : high < n
  · have e : clampV n low high = high := by simp [clampV, h, h2]
    rw [e]
    clear e
    go_enter Try.func31, Try.ntmps31
    go_wp2
    go_ret
    exact ⟨rfl, rfl⟩
  · have e : clampV n low high = n := by simp [clampV, h, h2]
    rw [e]
    clear e
    go_enter Try.func31, Try.ntmps31
    go_wp2
    go_ret
    exact ⟨rfl, rfl⟩

end Num
end Go.Proofs.Ytiailoglcmidoaa
