/-
  Layer 6: the law ValueCompares.
-/
import Derived.Test.YtonlcjackbhnmaaGreatDoorVdQ
import Derived.Test.YtonlcjackbhnmaaGreatDoorVdC
namespace Go.Proofs.YtonlcjackbhnmaaGreatDoor
open Go.RowKit Go.ChangeShapes Go.WideShapes
namespace Val

set_option maxHeartbeats 4000000 in
theorem law_compares (a b : List Cel) (o1 o2 : Option Addr) (n1 c1 n2 c2 : Nat) (hn1 : n1 ≤ 4611686018427387904) (hn2 : n2 ≤ 4611686018427387904) (w : World) (hL : Lad w) (hA : CArg w o1 n1 a) (hB : CArg w o2 n2 b) :
    Calls Tryz.prog 4 #[.slice o1 n1 c1, .slice o2 n2 c2] w fun e w' => e = .returned (.bool true) ∧ Bel w w' := by
  have HA := Lib.hid hA
  have HB := Lib.hid hB
  have HL := Lib.hid hL
  have SA := Lib.hid (small_any a o1 n1 c1 hn1 w hA)
  have SB := Lib.hid (small_any b o2 n2 c2 hn2 w hB)
  cases hsa : smallB a with
  | false =>
    rw [hsa] at SA
    clear hA hB hL hsa
    go_enter Tryz.func4, Tryz.ntmps4
    go_wp2_with fail
    refine SA.out.mono ?_
    rintro e w' ⟨rfl, rfl⟩
    go_wp2_with fail
    refine (awake_any w).mono ?_
    rintro e w1 ⟨rfl, g1⟩
    go_wp2_with fail
    go_ret
    exact ⟨rfl, g1⟩
  | true =>
    rw [hsa] at SA
    cases hsb : smallB b with
    | false =>
      rw [hsb] at SB
      clear hA hB hL hsa hsb
      go_enter Tryz.func4, Tryz.ntmps4
      go_wp2_with fail
      refine SA.out.mono ?_
      rintro e w' ⟨rfl, rfl⟩
      go_wp2_with fail
      refine SB.out.mono ?_
      rintro e w' ⟨rfl, rfl⟩
      go_wp2_with fail
      refine (awake_any w).mono ?_
      rintro e w1 ⟨rfl, g1⟩
      go_wp2_with fail
      go_ret
      exact ⟨rfl, g1⟩
    | true =>
      rw [hsb] at SB
      have m1 : n1 ≤ 1000000 := by have := (small_yes hsa).1; have := hA.1; omega
      have m2 : n2 ≤ 1000000 := by have := (small_yes hsb).1; have := hB.1; omega
      have ha := Lib.hid (small_shrt hsa)
      have hb := Lib.hid (small_shrt hsb)
      have C1 := Lib.hid (vcmp_any a b o1 o2 n1 c1 n2 c2 m1 m2 ha.out hb.out w hA hB)
      have C2 : Hid (∀ W, Bel w W → Calls Tryz.prog 22 #[.slice o1 n1 c1, .slice o2 n2 c2] W fun e w' => e = .returned (.int .i64 (cmpB a b)) ∧ Bel W w') := Lib.hid (fun W g => rcmp_any a b o1 o2 n1 c1 n2 c2 m1 m2 W (HL.out.on g) (HA.out.on g) (HB.out.on g))
      have C3 : Hid (∀ W, Bel w W → Calls Tryz.prog 23 #[.slice o1 n1 c1, .slice o2 n2 c2] W fun e w' => e = .returned (.bool (sameB a b)) ∧ Bel W w') := Lib.hid (fun W g => vsame_any a b o1 o2 n1 c1 n2 c2 m1 m2 W (HA.out.on g) (HB.out.on g))
      have C4 : Hid (∀ W, Bel w W → Calls Tryz.prog 20 #[.slice o1 n1 c1, .slice o2 n2 c2] W fun e w' => e = .returned (.bool (sameB a b)) ∧ Bel W w') := Lib.hid (fun W g => same_any a b o1 o2 n1 c1 n2 c2 m1 m2 W (HA.out.on g) (HB.out.on g))
      generalize cmpB a b = z at *
      generalize sameB a b = s at *
      clear hA hB hL hsa hsb
      go_enter Tryz.func4, Tryz.ntmps4
      go_wp2_with fail
      refine SA.out.mono ?_
      rintro e w' ⟨rfl, rfl⟩
      go_wp2_with fail
      refine SB.out.mono ?_
      rintro e w' ⟨rfl, rfl⟩
      go_wp2_with fail
      refine C1.out.mono ?_
      rintro e w1 ⟨rfl, g⟩
      have G1 := Lib.hid g
      clear g
      go_wp2_with fail
      refine (C2.out _ G1.out).mono ?_
      rintro e w2 ⟨rfl, g⟩
      have G2 := Lib.hid (Bel.trans G1.out g)
      clear g
      go_wp2_with fail
      refine (C3.out _ G2.out).mono ?_
      rintro e w3 ⟨rfl, g⟩
      have G3 := Lib.hid (Bel.trans G2.out g)
      clear g
      go_wp2_with fail
      refine (C4.out _ G3.out).mono ?_
      rintro e w4 ⟨rfl, g⟩
      have G4 := Lib.hid (Bel.trans G3.out g)
      clear g
      cases s <;>
      · go_wp2_with fail
        refine (awake_any w4).mono ?_
        rintro e w5 ⟨rfl, g⟩
        have G5 := Lib.hid (Bel.trans G4.out g)
        clear g
        go_wp2_with fail
        go_ret
        exact ⟨rfl, G5.out⟩
end Val
end Go.Proofs.YtonlcjackbhnmaaGreatDoor
