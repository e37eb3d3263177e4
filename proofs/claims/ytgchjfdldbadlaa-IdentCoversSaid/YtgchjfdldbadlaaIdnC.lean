/-
  Layer 5: the characters of names and identifiers, in the code and in the reference.
-/
import Derived.Test.YtgchjfdldbadlaaIdnA
import Derived.Test.YtgchjfdldbadlaaNumA
import Derived.Test.YtgchjfdldbadlaaHshK
namespace Go.Proofs.Ytgchjfdldbadlaa
open Go.RowKit
namespace Idn

/-- The characters, as integers. -/
def smallR (r : Int) : Bool := decide (97 ≤ r) && decide (r ≤ 122)
def digR (r : Int) : Bool := decide (48 ≤ r) && decide (r ≤ 57)
def bigR (r : Int) : Bool := decide (65 ≤ r) && decide (r ≤ 90)
def tailR (r : Int) : Bool := smallR r || digR r || r == 45 || r == 95
def partR (r : Int) : Bool := tailR r || bigR r || r == 46 || r == 58 || r == 47
theorem isSmall_any (r : Int) (w : World) :
    Calls Try.prog 35 #[.int .i32 r] w fun e w' => e = .returned (.bool (smallR r)) ∧ w = w' := by
  unfold smallR
  by_cases h1 : 97 ≤ r
  all_goals
    go_enter Try.func35, Try.ntmps35
    go_wp2
    go_ret
    exact ⟨by simp <;> omega, rfl⟩
theorem rsmall_any (r : Int) (w : World) :
    Calls Try.prog 36 #[.int .u8 r] w fun e w' => e = .returned (.bool (smallR r)) ∧ w = w' := by
  unfold smallR
  by_cases h1 : 97 ≤ r
  all_goals
    go_enter Try.func36, Try.ntmps36
    go_wp2
    go_ret
    exact ⟨by simp <;> omega, rfl⟩
theorem rdigit_any (r : Int) (w : World) :
    Calls Try.prog 37 #[.int .u8 r] w fun e w' => e = .returned (.bool (digR r)) ∧ w = w' := by
  unfold digR
  by_cases h1 : 48 ≤ r
  all_goals
    go_enter Try.func37, Try.ntmps37
    go_wp2
    go_ret
    exact ⟨by simp <;> omega, rfl⟩
theorem isInName_any (r : Int) (w : World) :
    Calls Try.prog 34 #[.int .i32 r] w fun e w' => e = .returned (.bool (tailR r)) ∧ w = w' := by
  have hE := Lib.hid (show tailR r = (smallR r || digR r || r == 45 || r == 95) from rfl)
  cases hs : smallR r
  all_goals
    have H := Lib.hid hs
    clear hs
    go_enter Try.func34, Try.ntmps34
    go_wp2_with (go_at_call 35; refine (isSmall_any _ _).mono ?_; rintro e w' ⟨rfl, rfl⟩; rw [H.out])
    all_goals
      go_ret
      refine ⟨?_, rfl⟩
      subst_vars
      have H' := H.out
      simp [tailR, digR, H'] <;> grind
theorem isInID_any (r : Int) (w : World) :
    Calls Try.prog 38 #[.int .i32 r] w fun e w' => e = .returned (.bool (partR r)) ∧ w = w' := by
  cases hs : tailR r
  all_goals
    have H := Lib.hid hs
    clear hs
    go_enter Try.func38, Try.ntmps38
    go_wp2_with (go_at_call 34; refine (isInName_any _ _).mono ?_; rintro e w' ⟨rfl, rfl⟩; rw [H.out])
    all_goals
      go_ret
      refine ⟨?_, rfl⟩
      subst_vars
      have H' := H.out
      simp [partR, bigR, H'] <;> grind
theorem rpart_any (r : Int) (w : World) :
    Calls Try.prog 39 #[.int .u8 r] w fun e w' => e = .returned (.bool (partR r)) ∧ w = w' := by
  cases hs : smallR r <;> cases hd : digR r
  all_goals
    have H := Lib.hid hs
    have H2 := Lib.hid hd
    clear hs hd
    go_enter Try.func39, Try.ntmps39
    go_wp2_with (first | (go_at_call 36; refine (rsmall_any _ _).mono ?_; rintro e w' ⟨rfl, rfl⟩; rw [H.out]) | (go_at_call 37; refine (rdigit_any _ _).mono ?_; rintro e w' ⟨rfl, rfl⟩; rw [H2.out]))
    all_goals
      go_ret
      refine ⟨?_, rfl⟩
      subst_vars
      have H' := H.out
      have H2' := H2.out
      simp [partR, tailR, bigR, H', H2'] <;> grind
end Idn
end Go.Proofs.Ytgchjfdldbadlaa
