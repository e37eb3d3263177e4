/-
  The law on inverse operations and on rounding.
-/
import Derived.Test.YtghcbicapcpmlaaRatT
import Derived.Test.YtghcbicapcpmlaaRatU
import Derived.Test.YtghcbicapcpmlaaRatS
namespace Go.Proofs.Ytghcbicapcpmlaa
open Go.RowKit
namespace Rat2

theorem says_pr {f : Nat} {args : Array Value} {a b c x y z : Int} (h : Says f args (pr a b c)) (h1 : a = x) (h2 : b = y) (h3 : c = z) : Says f args (pr x y z) := by
  rw [← h1, ← h2, ← h3]; exact h
theorem law_inverse (a1 a2 b1 b2 : Int) (w : World) : Calls Try.prog 8 #[rv a1 a2, rv b1 b2] w fun e w' => e = .returned (.bool true) ∧ Grown w w' := by
  refine inverse_core a1 a2 b1 b2 _ _ _ _ _ _ (flo a1 a2) (cel a1 a2) (vr a1 a2) (vr b1 b2)
    (Lib.hid fun W => valid_any a1 a2 W) (Lib.hid fun W => valid_any b1 b2 W) (Lib.hid fun W => add_any a1 a2 b1 b2 W) (Lib.hid fun W => mul_any a1 a2 b1 b2 W)
    (Lib.hid ?_) (Lib.hid ?_) (Lib.hid fun W => floor_any a1 a2 W) (Lib.hid fun W => ceil_any a1 a2 W) (Lib.hid ?_) (Lib.hid ?_) (Lib.hid fun W => awake_any W) w
  · intro h
    obtain ⟨k, e⟩ := opE_ok h
    obtain ⟨ha, hb⟩ := and_split k
    obtain ⟨v, r1, r2, r3⟩ := sub_undoes ha hb e
    rw [k]
    refine says_pr (fun W => sub_any _ _ b1 b2 W) ?_ ?_ ?_
    all_goals
      unfold opN opD
      try unfold opE
      simp only [if_true, v, hb, Bool.and_self, Bool.false_eq_true, if_false]
      assumption
  · intro h hz
    obtain ⟨k, e⟩ := opE_ok h
    obtain ⟨ha, hb⟩ := and_split k
    obtain ⟨v, r1, r2, r3⟩ := div_undoes ha hb hz e
    have hz2 : (b1 == 0) = false := by simpa using hz
    rw [k]
    refine says_pr (fun W => div_any _ _ b1 b2 W) ?_ ?_ ?_
    all_goals
      unfold opN opD
      try unfold opE
      simp only [if_true, v, hb, hz2, Bool.and_self, Bool.false_eq_true, if_false]
      assumption
  · intro ha W
    obtain ⟨x1, x2, x3, x4, _⟩ := vr_true ha
    obtain ⟨_, hb, _⟩ := round_bd ha
    have e : a1 * 1 / a2 = flo a1 a2 := by unfold flo; rw [ha, if_pos rfl, Int.mul_one]
    have := of_ok (k := 1) ha (Num.vld_of (by omega) (by omega)) e (by omega)
    rw [← this.1, ← this.2]
    exact of_any a1 a2 1 W
  · intro ha
    obtain ⟨x1, x2, x3, x4, _⟩ := vr_true ha
    obtain ⟨h1, h2, h3, h4⟩ := round_bd ha
    have p1 := nd_bd h2.1 h2.2 x1 x2
    have p2 := nd_bd h3.1 h3.2 x1 x2
    exact ⟨h1, h2, h3, h4, by omega, by omega, x3, x4⟩
end Rat2
end Go.Proofs.Ytghcbicapcpmlaa
