/-
  Layer 8: the law SyntaxRoundTrips.
-/
import Derived.Test.YtinadbomebgfaaaGreatDoorSpL
namespace Go.Proofs.YtinadbomebgfaaaGreatDoor
open Go.RowKit Go.ChangeShapes Go.WideShapes
namespace Syn
/-- Parse reads the printed program as this program; Check accepts it. -/
theorem rt_good (fs : List Fu) (hc : chkE (flatF 0 fs) (funcF 0 fs) = 0) (no fo : Option Addr) (n nc m fc : Nat) (w : World) (hm : Lex.ML w) (h : PAt w no n fo m fs) : Calls Tryz.prog 6 #[.agg #[.slice no n nc, .slice fo m fc]] w fun e w' => e = .returned (.bool true) ∧ Bel w w' := by
  obtain ⟨V, hV⟩ : ∃ V, w.alloc (.cells #[.slice no n nc, .slice fo m fc] 25) = V := ⟨_, rfl⟩
  have BV : Bel w V := by rw [← hV]; exact Bel.alloc (Bel.refl w) _
  have b0 : V.cell? ⟨w.heap.size, 0, none⟩ = some (.slice no n nc) := by rw [← hV]; exact World.cell?_alloc_new ..
  have b1 : V.cell? ⟨w.heap.size, 1, none⟩ = some (.slice fo m fc) := by rw [← hV]; exact World.cell?_alloc_new ..
  have HC := Lib.hid hc
  have HM := Lib.hid hm
  have HP := Lib.hid (h.on BV)
  have G1 := Lib.hid BV
  have HV := Lib.hid hV
  clear hc hm h BV hV
  go_enter Tryz.func6, Tryz.ntmps6
  go_wp2_with fail
  rw [HV.out]
  refine (print_two fs HC.out _ (HM.out.on G1.out) _ _ _ _ _ _ HP.out).mono ?_
  rintro e w3 ⟨rfl, g⟩
  have b0 := g.cell' b0
  have b1 := g.cell' b1
  have G3 := Lib.hid (Bel.trans G1.out g)
  have HP3 := Lib.hid (HP.out.on g)
  clear g
  obtain ⟨T, hT⟩ : ∃ T : ByteArray, ⟨(prT fs).toArray⟩ = T := ⟨_, rfl⟩
  have hpl := pr_limit HC.out
  rcases hpl with h0 | h3
  · have Q := Lib.hid (fun W => parse_printed fs HC.out h0 T hT.symm W)
    rw [hT, h0]
    clear hT
    go_wp2_with fail
    refine (Q.out _ (HM.out.on G3.out)).mono ?_
    rintro e w4 ⟨⟨no2, n2, nc2, fo2, m2, fc2, rfl, hP⟩, g⟩
    have b0 := g.cell' b0
    have b1 := g.cell' b1
    have B4 := Bel.alloc (Bel.refl w4) (.cells #[.slice no2 n2 nc2, .slice fo2 m2 fc2] 25)
    obtain ⟨V4, hV4⟩ : ∃ V, w4.alloc (.cells #[.slice no2 n2 nc2, .slice fo2 m2 fc2] 25) = V := ⟨_, rfl⟩
    have B4 : Bel w4 V4 := by rw [← hV4]; exact B4
    have b0 := B4.cell' b0
    have b1 := B4.cell' b1
    have d0 : V4.cell? ⟨w4.heap.size, 0, none⟩ = some (.slice no2 n2 nc2) := by rw [← hV4]; exact World.cell?_alloc_new ..
    have d1 : V4.cell? ⟨w4.heap.size, 1, none⟩ = some (.slice fo2 m2 fc2) := by rw [← hV4]; exact World.cell?_alloc_new ..
    have G4 := Lib.hid (Bel.trans G3.out (Bel.trans g B4))
    have HP4 := Lib.hid ((HP3.out.on g).on B4)
    have HQ4 := Lib.hid (hP.on B4)
    have x0 : (w4.alloc (.cells #[.slice no2 n2 nc2, .slice fo2 m2 fc2] 25)).cell? ⟨w.heap.size, 0, none⟩ = some (.slice no n nc) := by rw [hV4]; exact b0
    have x1 : (w4.alloc (.cells #[.slice no2 n2 nc2, .slice fo2 m2 fc2] 25)).cell? ⟨w.heap.size, 1, none⟩ = some (.slice fo m fc) := by rw [hV4]; exact b1
    have HV4 := Lib.hid hV4
    clear g B4 hV4 hP
    go_wp2_with fail
    rw [HV4.out]
    refine (check_prog fs HC.out _ (HM.out.on G4.out) _ _ _ _ _ _ HP4.out).mono ?_
    rintro e w5 ⟨rfl, g⟩
    have b0 := g.cell' b0
    have b1 := g.cell' b1
    have d0 := g.cell' d0
    have d1 := g.cell' d1
    have G5 := Lib.hid (Bel.trans G4.out g)
    have HP5 := Lib.hid (HP4.out.on g)
    have HQ5 := Lib.hid (HQ4.out.on g)
    clear g
    go_wp2_with fail
    refine (equal_prog fs HC.out _ _ _ _ _ _ _ _ _ _ _ _ _ HP5.out HQ5.out).mono ?_
    rintro e w6 ⟨rfl, g⟩
    have G6 := Lib.hid (Bel.trans G5.out g)
    clear g
    go_wp2_with fail
    refine (awake_any _ (HM.out.on G6.out)).mono ?_
    rintro e w7 ⟨rfl, g⟩
    have G7 := Lib.hid (Bel.trans G6.out g)
    clear g
    go_wp2_with fail
    go_ret
    exact ⟨rfl, G7.out⟩
  · have hT0 : (⟨(prT fs).toArray⟩ : ByteArray) = ⟨#[]⟩ := by unfold prT; rw [if_neg (by omega)]
    rw [hT0, h3]
    clear hT hT0
    go_wp2_with fail
    refine (awake_any _ (HM.out.on G3.out)).mono ?_
    rintro e w4 ⟨rfl, g⟩
    have G4 := Lib.hid (Bel.trans G3.out g)
    clear g
    go_wp2_with fail
    go_ret
    exact ⟨rfl, G4.out⟩
/-- What Check doesn't accept, Print answers with Check's error and no text. -/
theorem rt_bad (L : List Nd) (F : List Fw) (hc : chkE L F ≠ 0) (no fo : Option Addr) (n nc k fc : Nat) (hk : k ≤ 4611686018427387904) (hn : n ≤ 4611686018427387904) (w : World) (hm : Lex.ML w) (hA : NArg w no n L) (hF : FArg w fo k F) (hwf : WfN L) (hwF : ∀ x ∈ F, x.params.length ≤ 4611686018427387904) : Calls Tryz.prog 6 #[.agg #[.slice no n nc, .slice fo k fc]] w fun e w' => e = .returned (.bool true) ∧ Bel w w' := by
  obtain ⟨V, hV⟩ : ∃ V, w.alloc (.cells #[.slice no n nc, .slice fo k fc] 25) = V := ⟨_, rfl⟩
  have BV : Bel w V := by rw [← hV]; exact Bel.alloc (Bel.refl w) _
  have b0 : V.cell? ⟨w.heap.size, 0, none⟩ = some (.slice no n nc) := by rw [← hV]; exact World.cell?_alloc_new ..
  have b1 : V.cell? ⟨w.heap.size, 1, none⟩ = some (.slice fo k fc) := by rw [← hV]; exact World.cell?_alloc_new ..
  have HM := Lib.hid hm
  have HP := Lib.hid (fun W hm hA hF => print_bad no fo n nc k fc L F hk hn W hm hA hF hwf hwF hc)
  have HCh := Lib.hid (fun W hm hA hF => check_any no fo n nc k fc L F hk hn W hm hA hF hwf hwF)
  have HA := Lib.hid (hA.on BV)
  have HF := Lib.hid (hF.on BV)
  have G1 := Lib.hid BV
  have HV := Lib.hid hV
  generalize chkE L F = cc at *
  have hcb : (cc == 0) = false := by simpa using hc
  clear hm hA hF hwf hwF BV hV
  go_enter Tryz.func6, Tryz.ntmps6
  go_wp2_with fail
  rw [HV.out]
  refine (HP.out _ (HM.out.on G1.out) HA.out HF.out).mono ?_
  rintro e w3 ⟨rfl, g⟩
  have b0 := g.cell' b0
  have b1 := g.cell' b1
  have G3 := Lib.hid (Bel.trans G1.out g)
  have HA3 := Lib.hid (HA.out.on g)
  have HF3 := Lib.hid (HF.out.on g)
  clear g
  by_cases h3 : cc = 3
  · have h3b : (cc == 3) = true := by simpa using h3
    go_wp2_with fail
    refine (awake_any _ (HM.out.on G3.out)).mono ?_
    rintro e w4 ⟨rfl, g⟩
    have G4 := Lib.hid (Bel.trans G3.out g)
    clear g
    go_wp2_with fail
    go_ret
    exact ⟨rfl, G4.out⟩
  · have h3b : (cc == 3) = false := by simpa using h3
    go_wp2_with fail
    refine (HCh.out _ (HM.out.on G3.out) HA3.out HF3.out).mono ?_
    rintro e w4 ⟨rfl, g⟩
    have G4 := Lib.hid (Bel.trans G3.out g)
    clear g
    go_wp2_with fail
    refine (awake_any _ (HM.out.on G4.out)).mono ?_
    rintro e w5 ⟨rfl, g⟩
    have G5 := Lib.hid (Bel.trans G4.out g)
    clear g
    go_wp2_with fail
    go_ret
    exact ⟨rfl, G5.out⟩
theorem law_roundTrips (L : List Nd) (F : List Fw) (no fo : Option Addr) (n nc k fc : Nat) (hk : k ≤ 4611686018427387904) (hn : n ≤ 4611686018427387904) (w : World) (hm : Lex.ML w) (hA : NArg w no n L) (hF : FArg w fo k F) (hwf : WfN L) (hwF : ∀ x ∈ F, x.params.length ≤ 4611686018427387904) : Calls Tryz.prog 6 #[.agg #[.slice no n nc, .slice fo k fc]] w fun e w' => e = .returned (.bool true) ∧ Bel w w' := by
  by_cases hc : chkE L F = 0
  · obtain ⟨fs, rfl, rfl, -⟩ := chk_good hc
    exact rt_good fs hc no fo n nc k fc w hm ⟨hA, hF⟩
  · exact rt_bad L F hc no fo n nc k fc hk hn w hm hA hF hwf hwF
end Syn
end Go.Proofs.YtinadbomebgfaaaGreatDoor
