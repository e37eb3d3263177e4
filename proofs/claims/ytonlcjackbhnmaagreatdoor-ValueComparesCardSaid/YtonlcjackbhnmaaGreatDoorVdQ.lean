/-
  Layer 6: Cmp of what is not valid; the law ValueCompares.
-/
import Derived.Test.YtonlcjackbhnmaaGreatDoorVdI
import Derived.Test.YtonlcjackbhnmaaGreatDoorMF
namespace Go.Proofs.YtonlcjackbhnmaaGreatDoor
open Go.RowKit Go.ChangeShapes Go.WideShapes
namespace Val

set_option maxHeartbeats 2000000 in
theorem vcmp_no (a b : List Cel) (h : ¬ (chk a = 0 ∧ chk b = 0)) (o1 o2 : Option Addr) (n1 c1 n2 c2 : Nat) (hn1 : n1 ≤ 1000000) (hn2 : n2 ≤ 1000000) (hsa : Shrt a) (hsb : Shrt b) (w : World) (hA : CArg w o1 n1 a) (hB : CArg w o2 n2 b) :
    Calls Tryz.prog 21 #[.slice o1 n1 c1, .slice o2 n2 c2] w fun e w' => e = .returned (.int .i64 0) ∧ Bel w w' := by
  have H1 := Lib.hid (vcheck_any a o1 n1 c1 hn1 hsa w hA)
  have H2 := Lib.hid (fun w1 (g : Bel w w1) => vcheck_any b o2 n2 c2 hn2 hsb w1 (hB.on g))
  obtain ⟨E1, hE1⟩ : ∃ E, chk a = E := ⟨_, rfl⟩
  obtain ⟨E2, hE2⟩ : ∃ E, chk b = E := ⟨_, rfl⟩
  rw [hE1] at H1 h
  rw [hE2] at h
  have H2' : Hid (∀ w1, Bel w w1 → Calls Tryz.prog 32 #[.slice o2 n2 c2] w1 fun e w' => e = .returned (.int .i64 E2) ∧ Bel w1 w') := Lib.hid (fun w1 g => by rw [← hE2]; exact H2.out w1 g)
  clear hA hB hE1 hE2 hsa hsb H2
  by_cases h1 : E1 = 0
  · subst h1
    have h2 : E2 ≠ 0 := fun e => h ⟨rfl, e⟩
    have h2' : (E2 != 0) = true := by simpa using h2
    clear h
    go_enter Tryz.func21, Tryz.ntmps21
    go_wp2_with fail
    refine H1.out.mono ?_
    rintro e w1 ⟨rfl, g1⟩
    have G1 := Lib.hid g1
    clear g1
    go_wp2_with fail
    refine (H2'.out w1 G1.out).mono ?_
    rintro e w2 ⟨rfl, g2⟩
    have G2 := Lib.hid (Bel.trans G1.out g2)
    clear g2
    go_wp2_with fail
    go_ret
    exact ⟨rfl, G2.out⟩
  · have h1' : (E1 != 0) = true := by simpa using h1
    clear h
    go_enter Tryz.func21, Tryz.ntmps21
    go_wp2_with fail
    refine H1.out.mono ?_
    rintro e w1 ⟨rfl, g1⟩
    have G1 := Lib.hid g1
    clear g1
    go_wp2_with fail
    go_ret
    exact ⟨rfl, G1.out⟩
/-- Cmp, as the program has it, answers as the plain order. -/
theorem vcmp_any (a b : List Cel) (o1 o2 : Option Addr) (n1 c1 n2 c2 : Nat) (hn1 : n1 ≤ 1000000) (hn2 : n2 ≤ 1000000) (hsa : Shrt a) (hsb : Shrt b) (w : World) (hA : CArg w o1 n1 a) (hB : CArg w o2 n2 b) :
    Calls Tryz.prog 21 #[.slice o1 n1 c1, .slice o2 n2 c2] w fun e w' => e = .returned (.int .i64 (cmpB a b)) ∧ Bel w w' := by
  by_cases h : chk a = 0 ∧ chk b = 0
  · obtain ⟨v, hv, _⟩ := chk_ok h.1
    obtain ⟨u, hu, _⟩ := chk_ok h.2
    have hz : cmpB a b = cmp v u := by
      unfold cmpB
      rw [if_pos h, hv, hu]
    rw [hz]
    exact vcmp_yes a b v u hv hu h.1 h.2 o1 o2 n1 c1 n2 c2 hn1 hn2 hsa hsb w hA hB
  · rw [show cmpB a b = 0 from if_neg h]
    exact vcmp_no a b h o1 o2 n1 c1 n2 c2 hn1 hn2 hsa hsb w hA hB
end Val
end Go.Proofs.YtonlcjackbhnmaaGreatDoor
