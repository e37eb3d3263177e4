/-
  Contracts of the plain functions of package num and of its reference: which integer or error each one returns.
-/
import Derived.Test.YtghjflmanldjlaaDoorRows
import Derived.WalkKit
import Derived.Lib.Hide
import Derived.Deep.QuietTactic
import Derived.BigQuiet
import Derived.RowKit3
namespace Go.Proofs.YtghjflmanldjlaaDoor
open Go.RowKit
namespace Num

/-- A valid integer. -/
def vld (n : Int) : Bool := decide (-1000000000000 ≤ n ∧ n ≤ 1000000000000)
theorem vld_true {n : Int} (h : vld n = true) : -1000000000000 ≤ n ∧ n ≤ 1000000000000 := of_decide_eq_true h
theorem vld_false {n : Int} (h : vld n = false) : ¬ (-1000000000000 ≤ n ∧ n ≤ 1000000000000) := of_decide_eq_false h
theorem vld_of {n : Int} (h1 : -1000000000000 ≤ n) (h2 : n ≤ 1000000000000) : vld n = true := decide_eq_true ⟨h1, h2⟩
theorem vld_not {n : Int} (h : ¬ (-1000000000000 ≤ n ∧ n ≤ 1000000000000)) : vld n = false := decide_eq_false h

theorem valid_any (n : Int) (w : World) :
    Calls Tryd.prog 64 #[.int .i64 n] w fun e w' => e = .returned (.bool (vld n)) ∧ w = w' := by
  unfold vld
  by_cases h1 : -1000000000000 ≤ n
  · go_enter Tryd.func64, Tryd.ntmps64
    go_wp2
    go_ret
    exact ⟨by simp [h1], rfl⟩
  · have h1' : n < -1000000000000 := by omega
    go_enter Tryd.func64, Tryd.ntmps64
    go_wp2
    go_ret
    exact ⟨by simp; omega, rfl⟩
theorem rvalid_any (n : Int) (w : World) :
    Calls Tryd.prog 28 #[.int .i64 n] w fun e w' => e = .returned (.bool (vld n)) ∧ w = w' := by
  unfold vld
  by_cases h1 : -1000000000000 ≤ n
  · go_enter Tryd.func28, Tryd.ntmps28
    go_wp2
    go_ret
    exact ⟨by simp [h1], rfl⟩
  · have h1' : n < -1000000000000 := by omega
    go_enter Tryd.func28, Tryd.ntmps28
    go_wp2
    go_ret
    exact ⟨by simp; omega, rfl⟩
/-- An integer that is valid and not negative. -/
def amt (n : Int) : Bool := decide (0 ≤ n) && decide (n ≤ 1000000000000)
theorem amt_true {n : Int} (h : amt n = true) : 0 ≤ n ∧ n ≤ 1000000000000 := by simpa [amt] using h
theorem amt_of {n : Int} (h1 : 0 ≤ n) (h2 : n ≤ 1000000000000) : amt n = true := by simp [amt, h1, h2]
/-- A pair of an integer and an error. -/
def pair (n e : Int) : Ending := .returned (.tuple #[.int .i64 n, .int .i64 e])
def trip (n m e : Int) : Ending := .returned (.tuple #[.int .i64 n, .int .i64 m, .int .i64 e])

/-- What checked returns. -/
def chk (n : Int) : Int := if vld n then n else 0
def chkE (n : Int) : Int := if vld n then 0 else 8
def addV (a b : Int) : Int := if vld a && vld b then chk (a + b) else 0
def addE (a b : Int) : Int := if vld a && vld b then chkE (a + b) else 2
/-- The amount of an integer. -/
def abz (n : Int) : Int := if n < 0 then -n else n
theorem abz_neg {n : Int} (h : n < 0) : abz n = -n := if_pos h
theorem abz_pos {n : Int} (h : ¬ n < 0) : abz n = n := if_neg h
theorem wf_bd {n : Int} (w0 : (Lit.int .i64 n).wf = true) : -9223372036854775808 ≤ n ∧ n ≤ 9223372036854775807 := by
  have h : (decide ((-9223372036854775808 : Int) ≤ n) && decide (n ≤ (9223372036854775807 : Int))) = true := w0
  simpa using h
theorem amount_any (n : Int) (h1 : -9223372036854775808 ≤ n) (h2 : n ≤ 9223372036854775807) (w : World) :
    Calls Tryd.prog 56 #[.int .i64 n] w fun e w' => e = .returned (.int .u64 (abz n)) ∧ w = w' := by
  by_cases h : n < 0
  · rw [abz_neg h]
    go_enter Tryd.func56, Tryd.ntmps56
    go_wp2
    go_ret
    refine ⟨?_, rfl⟩
    have e : IntKind.u64.wrap (-IntKind.u64.wrap n) = -n := by rw [IntKind.wrap_u64, IntKind.wrap_u64]; omega
    simp [e]
  · rw [abz_pos h]
    go_enter Tryd.func56, Tryd.ntmps56
    go_wp2
    go_ret
    exact ⟨by simp, rfl⟩
theorem abz_vld {a : Int} (h : vld a = true) : 0 ≤ abz a ∧ abz a ≤ 1000000000000 := by
  have := vld_true h; unfold abz; split <;> omega
/-- The test of Mul agrees with the product's own size. -/
theorem mul_test {a b : Int} (h : a ≠ 0) : 1000000000000 / abz a < abz b ↔ vld (a * b) = false := by
  have e : abz (a * b) = abz a * abz b := by
    unfold abz
    by_cases ha : a < 0 <;> by_cases hb : b < 0
    · have : ¬ a * b < 0 := by have := Int.mul_pos_of_neg_of_neg ha hb; omega
      simp [ha, hb, this, Int.neg_mul_neg]
    · by_cases hz : b = 0
      · subst hz; simp
      · have : a * b < 0 := Int.mul_neg_of_neg_of_pos ha (by omega)
        simp [ha, hb, this, Int.neg_mul]
    · have : a * b < 0 := Int.mul_neg_of_pos_of_neg (by omega) hb
      simp [ha, hb, this, Int.mul_neg]
    · have : ¬ a * b < 0 := by have := Int.mul_nonneg (a := a) (b := b) (by omega) (by omega); omega
      simp [ha, hb, this]
  have p : 0 < abz a := by unfold abz; split <;> omega
  have q : vld (a * b) = false ↔ 1000000000000 < abz (a * b) := by
    unfold vld abz; rw [decide_eq_false_iff_not]; split <;> omega
  rw [q, e]
  constructor
  · intro h; have := (Int.ediv_lt_iff_lt_mul p).1 h; rw [Int.mul_comm] at this; exact this
  · intro h; apply (Int.ediv_lt_iff_lt_mul p).2; rw [Int.mul_comm]; exact h

def mulV (a b : Int) : Int := if vld a && vld b then chk (a * b) else 0
def mulE (a b : Int) : Int := if vld a && vld b then chkE (a * b) else 2
def subV (a b : Int) : Int := if vld a && vld b then chk (a - b) else 0
def subE (a b : Int) : Int := if vld a && vld b then chkE (a - b) else 2

def clampV (n low high : Int) : Int := if n < low then low else if high < n then high else n

end Num
end Go.Proofs.YtghjflmanldjlaaDoor
