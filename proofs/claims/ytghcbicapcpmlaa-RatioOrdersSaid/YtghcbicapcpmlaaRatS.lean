/-
  The law on the order of ratios.
-/
import Derived.Test.YtghcbicapcpmlaaRatQ
import Derived.Test.YtghcbicapcpmlaaRatR
namespace Go.Proofs.Ytghcbicapcpmlaa
open Go.RowKit
namespace Rat2

theorem opE_ok {ok : Bool} {n d : Int} (h : opE ok false n d = 0) : ok = true ∧ redE n d = 0 := by
  unfold opE at h
  cases ok
  · simp at h
  · exact ⟨rfl, by simpa using h⟩
theorem op_true (n d : Int) : opN true false n d = redN n d ∧ opD true false n d = redD n d := ⟨rfl, rfl⟩
theorem and_split {a b : Bool} (h : (a && b) = true) : a = true ∧ b = true := by simpa using h
theorem law_orders (a1 a2 b1 b2 c1 c2 : Int) (w : World) : Calls Try.prog 7 #[rv a1 a2, rv b1 b2, rv c1 c2] w fun e w' => e = .returned (.bool true) ∧ Grown w w' := by
  refine orders_core a1 a2 b1 b2 c1 c2 (cmp a1 a2 b1 b2) (cmp b1 b2 c1 c2) (cmp a1 a2 c1 c2) _ _ _ _ _ _ _ _ _ (vr a1 a2) (vr b1 b2) (vr c1 c2) (cmp_bd _ _ _ _).1 (cmp_bd _ _ _ _).2
    (Lib.hid fun W => cmp_any a1 a2 b1 b2 W) (Lib.hid ?_) (Lib.hid fun W => valid_any a1 a2 W) (Lib.hid fun W => valid_any b1 b2 W) (Lib.hid fun W => valid_any c1 c2 W)
    (Lib.hid fun W => cmp_any b1 b2 c1 c2 W) (Lib.hid fun W => cmp_any a1 a2 c1 c2 W) (fun ha hb hc h1 h2 => cmp_trans ha hb hc h1 h2) (Lib.hid fun W => sub_any a1 a2 b1 b2 W) (Lib.hid ?_) (Lib.hid fun W => add_any a1 a2 c1 c2 W) (Lib.hid fun W => add_any b1 b2 c1 c2 W) (Lib.hid ?_)
    (Lib.hid fun W => awake_any W) ?_ ?_ w
  · intro W
    have e : cmp b1 b2 a1 a2 = -cmp a1 a2 b1 b2 := by
      cases ha : vr a1 a2
      · rw [cmp_bad (by rw [ha, Bool.and_false]), cmp_bad (by rw [ha]; rfl)]; rfl
      · cases hb : vr b1 b2
        · rw [cmp_bad (by rw [hb]; rfl), cmp_bad (by rw [hb, Bool.and_false])]; rfl
        · exact cmp_flip ha hb
    rw [← e]
    exact cmp_any b1 b2 a1 a2 W
  · intro h
    obtain ⟨k, e⟩ := opE_ok h
    obtain ⟨ha, hb⟩ := and_split k
    rw [k, ← sub_order ha hb e]
    exact fun W => cmp_any _ _ 0 1 W
  · intro hx hy
    obtain ⟨k1, e1⟩ := opE_ok hx
    obtain ⟨k2, e2⟩ := opE_ok hy
    obtain ⟨ha, hc⟩ := and_split k1
    obtain ⟨hb, _⟩ := and_split k2
    rw [k1, k2, ← add_order ha hb hc e1 e2]
    exact fun W => cmp_any _ _ _ _ W
  · exact fun h => cmp_bad h
  · intro h
    obtain ⟨ha, hb⟩ := and_split h
    exact cmp_zero ha hb
end Rat2
end Go.Proofs.Ytghcbicapcpmlaa
