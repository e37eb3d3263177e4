/-
  Contracts of the divisions of package num and of its reference.
-/
import Derived.Test.YtghcbicapcpmlaaNumA
import Derived.Test.YtghcbicapcpmlaaShelf
namespace Go.Proofs.Ytghcbicapcpmlaa
open Go.RowKit
namespace Num

/-- The quotient, rounded down, and its remainder, from those of Go. -/
def adj (a b : Int) : Bool := (a.tmod b != 0) && (!decide (a.tmod b < 0) == decide (b < 0))
def dq (a b : Int) : Int := if adj a b then a.tdiv b - 1 else a.tdiv b
def dr (a b : Int) : Int := if adj a b then a.tmod b + b else a.tmod b

theorem tdiv_bd {a b : Int} (h1 : -1000000000000 ≤ a) (h2 : a ≤ 1000000000000) (_hb : b ≠ 0) : -1000000000000 ≤ a.tdiv b ∧ a.tdiv b ≤ 1000000000000 := by
  have h := Int.natAbs_tdiv_le_natAbs a b
  omega
theorem tmod_bd {a b : Int} (h1 : -1000000000000 ≤ b) (h2 : b ≤ 1000000000000) (hb : b ≠ 0) : -1000000000000 < a.tmod b ∧ a.tmod b < 1000000000000 := by
  have h := Int.natAbs_tmod a b
  have h' := Nat.mod_lt a.natAbs (y := b.natAbs) (by omega)
  omega
theorem dq_bd {a b : Int} (h1 : -1000000000000 ≤ a) (h2 : a ≤ 1000000000000) (hb : b ≠ 0) : -1000000000001 ≤ dq a b ∧ dq a b ≤ 1000000000000 := by
  have := tdiv_bd h1 h2 hb
  unfold dq; split <;> omega

def dmQ (a b : Int) : Int := if vld a && vld b then (if b = 0 then 0 else dq a b) else 0
def dmR (a b : Int) : Int := if vld a && vld b then (if b = 0 then 0 else dr a b) else 0
def dmE (a b : Int) : Int := if vld a && vld b then (if b = 0 then 9 else 0) else 2

theorem divMod (a b : Int) (ha : vld a = true) (hb : vld b = true) (hz : b ≠ 0) (w : World) :
    Calls Try.prog 44 #[.int .i64 a, .int .i64 b] w fun e w' => e = trip (dq a b) (dr a b) 0 ∧ ∃ n, w' = w.drewN n := by
  unfold dq dr trip
  obtain ⟨a1, a2⟩ := vld_true ha
  obtain ⟨b1, b2⟩ := vld_true hb
  obtain ⟨q1, q2⟩ := tdiv_bd (b := b) a1 a2 hz
  obtain ⟨r1, r2⟩ := tmod_bd (a := a) b1 b2 hz
  have e1 : IntKind.i64.wrap (a.tdiv b) = a.tdiv b := IntWalk.i64_in _ (by omega)
  have e2 : IntKind.i64.wrap (a.tmod b) = a.tmod b := IntWalk.i64_in _ (by omega)
  have H := Lib.hid ha
  have H2 := Lib.hid hb
  have hzb : (b == 0) = false := by simpa using hz
  clear ha hb
  cases ht : adj a b
  · cases hm : (a.tmod b != 0)
    · have hm' : (a.tmod b == 0) = true := by simpa using hm
      clear ht
      simp only [Bool.false_eq_true, if_false]
      go_enter Try.func44, Try.ntmps44
      go_wp2_with (first | (go_at_call 41; refine (valid_any _ _).mono ?_; rintro e w' ⟨rfl, rfl⟩; first | rw [H.out] | rw [H2.out]))
      go_quiet (fail)
      go_wp2
      go_ret3
      exact ⟨rfl, _, rfl⟩
    · have hs : (!decide (a.tmod b < 0) == decide (b < 0)) = false := by simpa [adj, hm] using ht
      clear ht
      simp only [Bool.false_eq_true, if_false]
      go_enter Try.func44, Try.ntmps44
      go_wp2_with (first | (go_at_call 41; refine (valid_any _ _).mono ?_; rintro e w' ⟨rfl, rfl⟩; first | rw [H.out] | rw [H2.out]))
      go_quiet (fail)
      go_wp2
      go_ret3
      exact ⟨rfl, _, rfl⟩
  · obtain ⟨hm, hs⟩ : (a.tmod b != 0) = true ∧ (!decide (a.tmod b < 0) == decide (b < 0)) = true := by simpa [adj] using ht
    clear ht
    simp only [if_true]
    go_enter Try.func44, Try.ntmps44
    go_wp2_with (first | (go_at_call 41; refine (valid_any _ _).mono ?_; rintro e w' ⟨rfl, rfl⟩; first | rw [H.out] | rw [H2.out]))
    go_quiet (fail)
    go_wp2
    go_ret3
    exact ⟨rfl, _, rfl⟩
theorem divMod_range (a b : Int) (h : (vld a && vld b) = false) (w : World) :
    Calls Try.prog 44 #[.int .i64 a, .int .i64 b] w fun e w' => e = trip 0 0 2 ∧ w = w' := by
  unfold trip
  cases ha : vld a
  · have H := Lib.hid ha
    clear ha h
    go_enter Try.func44, Try.ntmps44
    go_wp2_with (go_at_call 41; refine (valid_any _ _).mono ?_; rintro e w' ⟨rfl, rfl⟩; rw [H.out])
    go_ret3
    exact ⟨rfl, rfl⟩
  · have hb : vld b = false := by simpa [ha] using h
    have H := Lib.hid ha
    have H2 := Lib.hid hb
    clear ha hb h
    go_enter Try.func44, Try.ntmps44
    go_wp2_with (go_at_call 41; refine (valid_any _ _).mono ?_; rintro e w' ⟨rfl, rfl⟩; first | rw [H.out] | rw [H2.out])
    go_ret3
    exact ⟨rfl, rfl⟩
theorem divMod_zero (a : Int) (ha : vld a = true) (w : World) :
    Calls Try.prog 44 #[.int .i64 a, .int .i64 0] w fun e w' => e = trip 0 0 9 ∧ w = w' := by
  unfold trip
  have hb : vld 0 = true := rfl
  have H := Lib.hid ha
  have H2 := Lib.hid hb
  clear ha hb
  go_enter Try.func44, Try.ntmps44
  go_wp2_with (go_at_call 41; refine (valid_any _ _).mono ?_; rintro e w' ⟨rfl, rfl⟩; first | rw [H.out] | rw [H2.out])
  go_ret3
  exact ⟨rfl, rfl⟩
/-- Every case in one. -/
theorem divMod_any (a b : Int) (w : World) :
    Calls Try.prog 44 #[.int .i64 a, .int .i64 b] w fun e w' => e = trip (dmQ a b) (dmR a b) (dmE a b) ∧ ∃ n, w' = w.drewN n := by
  unfold dmQ dmR dmE
  cases h : (vld a && vld b)
  · refine (divMod_range a b h w).mono ?_
    rintro e w' ⟨rfl, rfl⟩
    exact ⟨rfl, 0, rfl⟩
  · obtain ⟨ha, hb⟩ : vld a = true ∧ vld b = true := by simpa using h
    by_cases hz : b = 0
    · subst hz
      refine (divMod_zero a ha w).mono ?_
      rintro e w' ⟨rfl, rfl⟩
      exact ⟨rfl, 0, rfl⟩
    · refine (divMod a b ha hb hz w).mono ?_
      rintro e w' ⟨rfl, n, rfl⟩
      exact ⟨by simp [hz], n, rfl⟩

def cdV (a b : Int) : Int := if dmE a b = 0 then (if (dmR a b != 0) = true then dmQ a b + 1 else dmQ a b) else 0

theorem ceilDiv_any (a b : Int) (w : World) :
    Calls Try.prog 45 #[.int .i64 a, .int .i64 b] w fun e w' => e = pair (cdV a b) (dmE a b) ∧ ∃ n, w' = w.drewN n := by
  unfold cdV pair
  have hq : dmE a b = 0 → -1000000000001 ≤ dmQ a b ∧ dmQ a b ≤ 1000000000000 := by
    unfold dmE dmQ
    cases h : (vld a && vld b)
    · simp
    · obtain ⟨ha, hb⟩ : vld a = true ∧ vld b = true := by simpa using h
      by_cases hz : b = 0
      · simp [hz]
      · have := dq_bd (vld_true ha).1 (vld_true ha).2 hz
        simpa [hz] using this
  have hz : dmE a b ≠ 0 → dmQ a b = 0 := by
    unfold dmE dmQ
    cases h : (vld a && vld b)
    · simp
    · by_cases hz : b = 0 <;> simp [hz]
  have Hd := Lib.hid (fun (w : World) => divMod_any a b w)
  unfold trip at Hd
  by_cases h1 : dmE a b = 0
  · obtain ⟨q1, q2⟩ := hq h1
    clear hq hz
    rw [h1] at Hd ⊢
    clear h1
    generalize dmQ a b = q at *
    generalize dmR a b = r at *
    cases h2 : (r != 0)
    all_goals
      have h2' : (r == 0) = !(r != 0) := by simp [bne]
      rw [h2] at h2'
      simp only [Bool.not_false, Bool.not_true] at h2'
      go_enter Try.func45, Try.ntmps45
      go_wp2_with (go_at_call 44; refine (Hd.out _).mono ?_; rintro e w' ⟨rfl, n, rfl⟩)
      go_ret2
      exact ⟨by simp_all, _, rfl⟩
  · have h0 := hz h1
    have h1' : (dmE a b != 0) = true := by simpa using h1
    have h1'' : (dmE a b == 0) = false := by simpa using h1
    rw [h0] at Hd
    clear hq hz h0
    generalize dmE a b = x at *
    generalize dmQ a b = q at *
    generalize dmR a b = r at *
    go_enter Try.func45, Try.ntmps45
    go_wp2_with (go_at_call 44; refine (Hd.out _).mono ?_; rintro e w' ⟨rfl, n, rfl⟩)
    go_ret2
    exact ⟨by simp, _, rfl⟩

end Num
end Go.Proofs.Ytghcbicapcpmlaa
