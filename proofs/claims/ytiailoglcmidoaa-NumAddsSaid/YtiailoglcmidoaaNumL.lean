/-
  The examples of the chapter hold: awake returns true.
-/
import Derived.Test.YtiailoglcmidoaaNumD
import Derived.Test.YtiailoglcmidoaaNumK
namespace Go.Proofs.Ytiailoglcmidoaa
open Go.RowKit
namespace Num

theorem Gr.trans {a b c : World} (h : Grown a b) (k : Grown b c) : Grown a c :=
  ⟨World.keptBut_trans h.1 k.1, fun x => (k.2.1 x).trans (h.2.1 x), Nat.le_trans h.2.2 k.2.2⟩
theorem Gr.drewN {a b : World} (h : Grown a b) (n : Nat) : Grown a (b.drewN n) := h

/-- The contracts under one relation of worlds. -/
theorem Calls.up {P : Program} {f : Nat} {args : Array Value} {w : World} {E : Ending → Prop} (h : Calls P f args w fun e w' => E e ∧ w = w') : Calls P f args w fun e w' => E e ∧ Grown w w' :=
  h.mono fun _ _ ⟨he, hw⟩ => ⟨he, hw ▸ Grown.refl _⟩

theorem aw_dm (w : World) : Calls Try.prog 23 #[.int .i64 (-7), .int .i64 2] w fun e w' => e = trip (-4) 1 0 ∧ Grown w w' :=
  (divMod_any (-7) 2 w).mono fun _ _ ⟨he, n, hw⟩ => ⟨he.trans (by rw [show dmQ (-7) 2 = -4 from by decide, show dmR (-7) 2 = 1 from by decide, show dmE (-7) 2 = 0 from by decide]), hw ▸ Gr.drewN (Grown.refl _) n⟩
theorem aw_cd (w : World) : Calls Try.prog 24 #[.int .i64 (-7), .int .i64 2] w fun e w' => e = pair (-3) 0 ∧ Grown w w' :=
  (ceilDiv_any (-7) 2 w).mono fun _ _ ⟨he, n, hw⟩ => ⟨he.trans (by rw [show cdV (-7) 2 = -3 from by decide, show dmE (-7) 2 = 0 from by decide]), hw ▸ Gr.drewN (Grown.refl _) n⟩
theorem aw_md (w : World) : Calls Try.prog 27 #[.int .i64 7, .int .i64 5, .int .i64 3] w fun e w' => e = pair 11 0 ∧ Grown w w' :=
  (mulDiv_any 7 5 3 w).mono fun _ _ ⟨he, n, hw⟩ => ⟨he.trans (by rw [show mdV 7 5 3 = 11 from by decide, show mdE 7 5 3 = 0 from by decide]), hw ▸ Gr.drewN (Grown.refl _) n⟩
theorem aw_mo (w : World) : Calls Try.prog 27 #[.int .i64 1000000000000, .int .i64 2, .int .i64 1] w fun e w' => e = pair 0 8 ∧ Grown w w' :=
  (mulDiv_any 1000000000000 2 1 w).mono fun _ _ ⟨he, n, hw⟩ => ⟨he.trans (by rw [show mdV 1000000000000 2 1 = 0 from by decide, show mdE 1000000000000 2 1 = 8 from by decide]), hw ▸ Gr.drewN (Grown.refl _) n⟩
theorem aw_pa (w : World) : Calls Try.prog 11 #[.string ⟨#[48, 48, 55]⟩] w fun e w' => e = pair 0 1 ∧ Grown w w' :=
  (parse_any ⟨#[48, 48, 55]⟩ (by decide) w).mono fun _ _ ⟨he, hw⟩ => ⟨he.trans (by rw [show (⟨#[48, 48, 55]⟩ : ByteArray).toList = [48, 48, 55] from Go.ByteArray.toList_mk _, show parV [48, 48, 55] = 0 from by decide, show parE [48, 48, 55] = 1 from by decide]), hw ▸ Grown.refl _⟩
theorem aw_fo (w : World) : Calls Try.prog 15 #[.int .i64 (-40)] w fun e w' => e = .returned (.string ⟨#[45, 52, 48]⟩) ∧ Grown w w' :=
  (format_any (-40) (by decide) (by decide) w).mono fun _ _ ⟨he, hw⟩ => ⟨he.trans rfl, hw⟩

theorem awake_any (w : World) : Calls Try.prog 10 #[] w fun e w' => e = .returned (.bool true) ∧ Grown w w' := by
  go_enter Try.func10, Try.ntmps10
  go_wp2_with fail
  refine (aw_dm _).mono ?_
  rintro e w1 ⟨rfl, g1⟩
  unfold trip
  go_wp2_with fail
  refine (aw_md _).mono ?_
  rintro e w2 ⟨rfl, g2⟩
  unfold pair
  go_wp2_with fail
  refine (aw_mo _).mono ?_
  rintro e w3 ⟨rfl, g3⟩
  unfold pair
  go_wp2_with fail
  refine (aw_pa _).mono ?_
  rintro e w4 ⟨rfl, g4⟩
  unfold pair
  go_wp2_with fail
  refine (aw_cd _).mono ?_
  rintro e w5 ⟨rfl, g5⟩
  unfold pair
  go_wp2_with fail
  refine (aw_fo _).mono ?_
  rintro e w6 ⟨rfl, g6⟩
  go_wp2_with fail
  go_ret
  exact ⟨rfl, Gr.trans g1 (Gr.trans g2 (Gr.trans g3 (Gr.trans g4 (Gr.trans g5 g6))))⟩

end Num
end Go.Proofs.Ytiailoglcmidoaa
