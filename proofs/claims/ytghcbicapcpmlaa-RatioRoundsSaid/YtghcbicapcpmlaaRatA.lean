/-
  Contracts of the functions that find common divisors, judge a ratio, and bring it to lowest terms.
-/
import Derived.Test.YtghcbicapcpmlaaRows
import Derived.Test.YtghcbicapcpmlaaRatM
import Derived.Test.YtghcbicapcpmlaaGrw
import Derived.WalkKit
import Derived.Lib.Hide
import Derived.Deep.QuietTactic
import Derived.BigQuiet
import Derived.RowKit3
import Derived.IntWalk
namespace Go.Proofs.Ytghcbicapcpmlaa
open Go.RowKit
namespace Rat2

/-- An int64. -/
def fits (n : Int) : Prop := -9223372036854775808 ≤ n ∧ n ≤ 9223372036854775807

theorem ret_int {k : IntKind} {a b : Int} (h : a = b) : Ending.returned (.int k a) = .returned (.int k b) := by rw [h]
def gcdI (a b : Int) : Prop := -4000000000000000000 ≤ a ∧ a ≤ 4000000000000000000 ∧ -4000000000000000000 ≤ b ∧ b ≤ 4000000000000000000
theorem tmod_bd {a b : Int} (h : gcdI a b) (hb : b ≠ 0) : gcdI b (a.tmod b) := by
  have := tmod_lt_abs a b hb
  unfold gcdI at *
  omega
theorem divisor_any (a b : Int) (h : gcdI a b) (w : World) :
    Calls Try.prog 38 #[.int .i64 a, .int .i64 b] w fun e w' => e = .returned (.int .i64 (gcd a b)) ∧ Grown w w' := by
  go_enter Try.func38, Try.ntmps38
  go_wp2
  go_loopw [0, 1] (fun x y wr => ∃ (p q : Int), x = .int .i64 p ∧ y = .int .i64 q ∧ gcdI p q ∧ Hid (gcd p q = gcd a b) ∧ Grown w wr) (fun _ y _ => (intOf y).natAbs)
  case atStart => exact ⟨a, b, rfl, rfl, h, Lib.hid rfl, Grown.refl _⟩
  case round =>
    obtain ⟨p, q, rfl, rfl, hpq, hg, hw⟩ := hrel
    by_cases hq : q = 0
    · subst hq
      have hb : -4000000000000000000 ≤ p ∧ p ≤ 4000000000000000000 := ⟨hpq.1, hpq.2.1⟩
      obtain ⟨hb1, hb2⟩ := hb
      have hz := Lib.hid ((gcd_zero p).symm.trans hg.out)
      clear hg
      go_wp2
      all_goals
        go_ret
        exact ⟨ret_int (by rw [← hz.out]; omega), hw⟩
    · have hs := Lib.hid ((gcd_step p q).trans hg.out)
      have hl := Lib.hid (tmod_lt_abs p q hq)
      have hn := tmod_bd hpq hq
      obtain ⟨b1, b2, b3, b4⟩ := hpq
      have hb : ((q : Int) == 0) = false := by simpa using hq
      have hw1 : IntKind.i64.wrap (p.tmod q) = p.tmod q := IntWalk.i64_in _ (by have := hn.2; unfold gcdI at *; omega)
      go_wp2
      go_quiet (fail)
      go_wp2
      exact ⟨⟨q, p.tmod q, rfl, rfl, hn, hs, Gr.drewN hw _⟩, by simpa [intOf] using hl.out⟩
theorem rdivisor_any (a b : Int) (ha : 0 ≤ a) (h : gcdI a b) (hb0 : 0 ≤ b) (w : World) :
    Calls Try.prog 39 #[.int .i64 a, .int .i64 b] w fun e w' => e = .returned (.int .i64 (gcd a b)) ∧ w' = w := by
  go_enter Try.func39, Try.ntmps39
  go_wp2
  go_loop [0, 1] (fun x y => ∃ (p q : Int), x = .int .i64 p ∧ y = .int .i64 q ∧ 0 ≤ p ∧ 0 ≤ q ∧ gcdI p q ∧ Hid (gcd p q = gcd a b)) (fun _ y => (intOf y).natAbs)
  case atStart => exact ⟨a, b, rfl, rfl, ha, hb0, h, Lib.hid rfl⟩
  case round =>
    obtain ⟨p, q, rfl, rfl, hp0, hq0, hpq, hg⟩ := hrel
    by_cases hq : q = 0
    · subst hq
      have hz := Lib.hid (show p = gcd a b by rw [← hg.out, gcd_zero]; omega)
      clear hg
      go_wp2
      go_ret
      exact ⟨ret_int hz.out, rfl⟩
    · have hs := Lib.hid ((gcd_step p q).trans hg.out)
      have hl := Lib.hid (tmod_lt_abs p q hq)
      have hn := tmod_bd hpq hq
      have hm : 0 ≤ p.tmod q := Int.tmod_nonneg q hp0
      obtain ⟨b1, b2, b3, b4⟩ := hpq
      have hb : ((q : Int) == 0) = false := by simpa using hq
      have hq1 : 1 ≤ q := by omega
      have he : p.tmod q = p % q := Int.tmod_eq_emod_of_nonneg hp0
      rw [he] at hs hl hn hm
      clear he
      go_wp2
      exact ⟨⟨q, p % q, rfl, rfl, by omega, hm, hn, hs⟩, by simpa [intOf] using hl.out⟩
theorem ramt_any (n : Int) (h1 : -9223372036854775807 ≤ n) (h2 : n ≤ 9223372036854775807) (w : World) :
    Calls Try.prog 40 #[.int .i64 n] w fun e w' => e = .returned (.int .i64 (if n < 0 then -n else n)) ∧ w' = w := by
  by_cases h : n < 0
  · rw [if_pos h]
    go_enter Try.func40, Try.ntmps40
    go_wp2
    go_ret
    exact ⟨rfl, rfl⟩
  · rw [if_neg h]
    go_enter Try.func40, Try.ntmps40
    go_wp2
    go_ret
    exact ⟨rfl, rfl⟩
/-- A ratio as a value. -/
abbrev rv (n d : Int) : Value := .agg #[.int .i64 n, .int .i64 d]
theorem valid_any (n d : Int) (w : World) :
    Calls Try.prog 11 #[rv n d] w fun e w' => e = .returned (.bool (vr n d)) ∧ Grown w w' := by
  by_cases h1 : 1 ≤ d
  · by_cases h2 : d ≤ 1000000
    · by_cases h3 : -1000000000 ≤ n
      · by_cases h4 : n ≤ 1000000000
        · rw [vr_in h1 h2 h3 h4]
          go_enter Try.func11, Try.ntmps11
          go_wp2_with fail
          refine (divisor_any _ _ (by unfold gcdI; omega) _).mono ?_
          rintro e w1 ⟨rfl, g1⟩
          go_wp2_with fail
          go_ret
          exact ⟨rfl, Gr.trans ((Grown.refl _).alloc _ _) g1⟩
        · rw [vr_out (by omega)]
          have h4' : 1000000000 < n := by omega
          clear h4
          go_enter Try.func11, Try.ntmps11
          go_wp2_with fail
          go_ret
          exact ⟨rfl, (Grown.refl _).alloc _ _⟩
      · rw [vr_out (by omega)]
        have h3' : n < -1000000000 := by omega
        clear h3
        go_enter Try.func11, Try.ntmps11
        go_wp2_with fail
        go_ret
        exact ⟨rfl, (Grown.refl _).alloc _ _⟩
    · rw [vr_out (by omega)]
      have h2' : 1000000 < d := by omega
      clear h2
      go_enter Try.func11, Try.ntmps11
      go_wp2_with fail
      go_ret
      exact ⟨rfl, (Grown.refl _).alloc _ _⟩
  · rw [vr_out (by omega)]
    have h1' : d < 1 := by omega
    clear h1
    go_enter Try.func11, Try.ntmps11
    go_wp2_with fail
    go_ret
    exact ⟨rfl, (Grown.refl _).alloc _ _⟩
theorem rvalid_any (n d : Int) (w : World) :
    Calls Try.prog 12 #[rv n d] w fun e w' => e = .returned (.bool (vr n d)) ∧ Grown w w' := by
  by_cases h1 : 1 ≤ d
  · by_cases h2 : d ≤ 1000000
    · by_cases h3 : -1000000000 ≤ n
      · by_cases h4 : n ≤ 1000000000
        · rw [vr_in h1 h2 h3 h4]
          generalize hm : (if n < 0 then -n else n) = m
          have hgm : gcd n d = gcd m d := by rw [← hm, gcd_abs]
          rw [hgm]
          have hm1 : 0 ≤ m := by rw [← hm]; split <;> omega
          have hm2 : m ≤ 1000000000 := by rw [← hm]; split <;> omega
          have HA : Hid (∀ wx, Calls Try.prog 40 #[.int .i64 n] wx fun e w' => e = .returned (.int .i64 m) ∧ w' = wx) := Lib.hid fun wx => hm ▸ ramt_any n (by omega) (by omega) wx
          clear hm hgm
          go_enter Try.func12, Try.ntmps12
          go_wp2_with fail
          go_quiet (first | (go_at_call 40; exact Calls.quiet_of_same (HA.out _)) | (go_at_call 39; exact Calls.quiet_of_same (rdivisor_any m d hm1 (by unfold gcdI; omega) (by omega) _)))
          go_wp2
          go_ret
          exact ⟨rfl, Gr.drewN ((Grown.refl _).alloc _ _) _⟩
        · rw [vr_out (by omega)]
          have h4' : 1000000000 < n := by omega
          clear h4
          go_enter Try.func12, Try.ntmps12
          go_wp2_with fail
          go_ret
          exact ⟨rfl, (Grown.refl _).alloc _ _⟩
      · rw [vr_out (by omega)]
        have h3' : n < -1000000000 := by omega
        clear h3
        go_enter Try.func12, Try.ntmps12
        go_wp2_with fail
        go_ret
        exact ⟨rfl, (Grown.refl _).alloc _ _⟩
    · rw [vr_out (by omega)]
      have h2' : 1000000 < d := by omega
      clear h2
      go_enter Try.func12, Try.ntmps12
      go_wp2_with fail
      go_ret
      exact ⟨rfl, (Grown.refl _).alloc _ _⟩
  · rw [vr_out (by omega)]
    have h1' : d < 1 := by omega
    clear h1
    go_enter Try.func12, Try.ntmps12
    go_wp2_with fail
    go_ret
    exact ⟨rfl, (Grown.refl _).alloc _ _⟩

end Rat2
end Go.Proofs.Ytghcbicapcpmlaa
