/-
  The statement ValueComparesCardSaid: for every input the law ValueCompares returns true, and each argument reads afterwards as it read before; the listed tables of the library hold what the program's text lays them as, which the card ties to that text. No condition beyond those of the statement itself.
-/
import Derived.Test.YtonlcjackbhnmaaGreatDoorCards
import Derived.Test.YtonlcjackbhnmaaGreatDoorTie
import Derived.Test.YtonlcjackbhnmaaGreatDoorMA
import Derived.Test.YtonlcjackbhnmaaGreatDoorMC
import Derived.Test.YtonlcjackbhnmaaGreatDoorVdR
import Derived.WalkKit
import Derived.ProofKit
import Derived.OpenShut
import Derived.ChangeMaps5
import Derived.SizedLaws
import Derived.SevenTiedAt
import Derived.Carry
namespace Go.Proofs.YtonlcjackbhnmaaGreatDoor.valueCompares
open Go.ChangeShapes Go.WideShapes Go.ChangeAt Go.RowKit
set_option linter.unusedVariables false

theorem own : ownKnob Tryz.prog.godebug = none := by kernel_rfl

set_option maxRecDepth 100000 in
theorem lifted (os : Os) (started : os.Started) (H : Type) (enc : TypeId × Value → H) :
    ReturnsInHanded {} Tryz.checked os 4 .any (fun w args => (Rows.valueComparesSpec.pre enc Tryz.prog Tryz.f4 [] false w args ∧ laidMetH Tryz.prog laidL w) ∧ sizedMet enc Tryz.prog Tryz.f4 (OpenSpec.ofChange Rows.valueComparesSpec) false w args)
      (Rows.valueComparesSpec.post enc Tryz.prog Tryz.f4 false true false false) := by
  refine returnsInHanded_of_change_and (C := Tryz.checked) (X := fun w _ => laidMetH Tryz.prog laidL w) (fun _ _ _ hh h => h.of_heap hh) own started (by kernel_rfl) Tryz.func4
    (ChangeSpec.witness_shaped (enc := enc) (C := Tryz.checked) (os := os) (X := fun w _ => laidMetH Tryz.prog laidL w) false (laidWorld os) #[.slice none 0 0, .slice none 0 0] 8 (laidWorld_os os) (World.shaped_of_ZipB (by kernel_rfl) (by kernel_rfl)) (by kernel_rfl) (by kernel_rfl) (by kernel_rfl) (laidWorld_met os _)) ?_
  intro W base args ds gs before hval0 hW _ hsz0 hLM _
  have hL := lad_of hLM
  have hsz : (DataW.weightsEach Tryz.prog (Tryz.f4.params.toList ++ Rows.valueComparesSpec.plain.varTypes Tryz.prog) (ds ++ gs)).all (· ≤ reachBytes) = true := hsz0
  clear hsz0
  have hval : ∀ (j : Nat) t v, Tryz.f4.params[j]? = some t → args[j]? = some v → Value.okWide Tryz.prog W .any base t v := hval0
  have hW' := hW
  obtain ⟨p, q, hA0, hV, rfl, hfz, hnd⟩ := hW
  have hA : DataW.TrodAll enc Tryz.prog W 0 (fun _ => true) true Tryz.f4.params.toList args.toList ds p := hA0
  rw [Tryz.params4] at hA hval hsz
  obtain ⟨v0, vs0, d0, ds0, p0, q0, hargs, rfl, rfl, h0, r0⟩ := trodAll_cons hA
  obtain ⟨v1, vs1, d1, ds1, p1, q1, rfl, rfl, rfl, h1, r1⟩ := trodAll_cons r0
  obtain ⟨rfl, rfl, rfl⟩ := trodAll_nil r1
  obtain rfl : args = #[v0, v1] := by cases args; simp_all
  obtain ⟨rfl, rfl⟩ := trodVars_none hV
  simp only [List.append_nil] at hW'
  have hlt0 : ∀ x ∈ p0, x.block < W.heap.size := fun x hx => by simpa using hW'.lt x (by simp [hx])
  obtain ⟨o0, l0, c0, hv0⟩ := okWide_slice Tryz.underlying22 (hval 0 22 v0 rfl rfl)
  subst hv0
  obtain ⟨xs0, kr0, kd0, kc0, km0⟩ := Val.cells_arg h0 Tryz.underlying22
  have kn0 : l0 ≤ 4611686018427387904 := by
    rcases kd0 with rfl | ⟨sp, rfl⟩
    · omega
    · have e1 := sized_slice hsz (j := 0) (t := 22) (e := 44) rfl rfl Tryz.underlying22
      have e2 := reachBytes_lt
      have e3 : Tryz.prog.bytesOf 44 = 40 := by kernel_rfl
      have e4 := kr0.1
      have e5 : (2 : Nat) ^ 47 = 140737488355328 := by decide
      rw [e3] at e1
      simp only [List.length_map] at e1
      omega
  have kx0 : ∀ x ∈ xs0, x.s.length ≤ 140737488355328 := by
    rcases kd0 with rfl | ⟨sp, rfl⟩
    · intro x hx
      rw [List.eq_nil_of_length_eq_zero kr0.1] at hx
      cases hx
    · exact Val.sized_cells hsz (j := 0) (t := 22) rfl rfl Tryz.underlying22
  have k0 := kr0.arg kx0
  have hlt1 : ∀ x ∈ p1, x.block < W.heap.size := fun x hx => by simpa using hW'.lt x (by simp [hx])
  obtain ⟨o1, l1, c1, hv1⟩ := okWide_slice Tryz.underlying22 (hval 1 22 v1 rfl rfl)
  subst hv1
  obtain ⟨xs1, kr1, kd1, kc1, km1⟩ := Val.cells_arg h1 Tryz.underlying22
  have kn1 : l1 ≤ 4611686018427387904 := by
    rcases kd1 with rfl | ⟨sp, rfl⟩
    · omega
    · have e1 := sized_slice hsz (j := 1) (t := 22) (e := 44) rfl rfl Tryz.underlying22
      have e2 := reachBytes_lt
      have e3 : Tryz.prog.bytesOf 44 = 40 := by kernel_rfl
      have e4 := kr1.1
      have e5 : (2 : Nat) ^ 47 = 140737488355328 := by decide
      rw [e3] at e1
      simp only [List.length_map] at e1
      omega
  have kx1 : ∀ x ∈ xs1, x.s.length ≤ 140737488355328 := by
    rcases kd1 with rfl | ⟨sp, rfl⟩
    · intro x hx
      rw [List.eq_nil_of_length_eq_zero kr1.1] at hx
      cases hx
    · exact Val.sized_cells hsz (j := 1) (t := 22) rfl rfl Tryz.underlying22
  have k1 := kr1.arg kx1
  clear hA0 hval0
  refine (Val.law_compares xs0 xs1 o0 o1 l0 c0 l1 c1 kn0 kn1 W hL k0 k1).mono fun e W' ⟨he, hg⟩ => ?_
  subst he
  exact ⟨_, rfl, _, _, _, [], _, [], hW', (trodAll_cons_mk (shut_bool Tryz.underlying4 _) trodAll_mk0), (trodAll_cons_mk (Below.trod laidOut (by kernel_rfl) (of_decide_eq_true (by kernel_rfl)) h0 hg hlt0) (trodAll_cons_mk (Below.trod laidOut (by kernel_rfl) (of_decide_eq_true (by kernel_rfl)) h1 hg hlt1) trodAll_mk0)), rfl, Below.frame hg _, fun h => by cases h⟩

theorem over : Rows.valueComparesRow.holds Tryz.pinned (OpenSpec.ofChange Rows.valueComparesSpec) :=
  OpenClaim.holds_of_wide 4 Tryz.f4 rfl rfl rfl rfl rfl rfl rfl ⟨rfl, rfl, rfl, rfl, rfl⟩ rfl rfl rfl rfl rfl (by kernel_rfl) Tryz.func4 (by kernel_rfl)
    (of_decide_eq_true (by kernel_rfl)) (by unfold Func.isWrapper; first | (rw [if_pos (by decide +kernel)]; kernel_rfl) | (rw [if_neg (by decide +kernel)]; exact ⟨rfl, rfl⟩))
    (fun os started H enc _ => lifted os started H enc)

/-- The statement. -/
theorem proved : Rows.ValueComparesCardSaid :=
  Claim7.holds_tied_plain_at .later [] [.data, .data, .data, .data, .pinned] true (true, "4b600d2308ef1bad9eba5f500427b23573d3a02b08c24295549442af88a299a5") false
    over (fun _ h => by cases h) (by kernel_rfl) (fun _ h => by cases h) valueCompares_row_tie rfl ⟨rfl, rfl⟩ (by kernel_rfl) rfl
    (fun f fn hf hfn => by
      obtain rfl : f = 4 := Option.some.inj ((show Tryz.prog.funcNamed "faas/faaslaw06.ValueCompares" = some 4 by kernel_rfl).symm.trans hf) |>.symm
      obtain rfl : fn = Tryz.f4 := (Option.some.inj (Tryz.func4.symm.trans hfn)).symm
      exact ⟨by kernel_rfl, fun j t ht => by
        rw [Tryz.params4] at ht
        have hm : t ∈ [22, 22] := by simpa using Array.mem_of_getElem? ht
        have hall : ([22, 22].all fun u => !Tryz.prog.wantsStandIn u) = true := by kernel_rfl
        exact (show Tryz.prog.wantsStandIn t = false by simpa using List.all_eq_true.1 hall t hm)⟩)
    (by kernel_rfl)
end Go.Proofs.YtonlcjackbhnmaaGreatDoor.valueCompares
