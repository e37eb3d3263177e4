/-
  The statement ValueFindsCardSaid: for every input the law ValueFinds returns true, and each argument reads afterwards as it read before; the listed tables of the library hold what the program's text lays them as, which the card ties to that text. No condition beyond those of the statement itself.
-/
import Derived.Test.YtegfcmnbljdcpaaGreatDoorCards
import Derived.Test.YtegfcmnbljdcpaaGreatDoorTie
import Derived.Test.YtegfcmnbljdcpaaGreatDoorMA
import Derived.Test.YtegfcmnbljdcpaaGreatDoorMC
import Derived.Test.YtegfcmnbljdcpaaGreatDoorVfJ
import Derived.WalkKit
import Derived.ProofKit
import Derived.OpenShut
import Derived.ChangeMaps5
import Derived.SizedLaws
import Derived.SevenTiedAt
import Derived.Carry
namespace Go.Proofs.YtegfcmnbljdcpaaGreatDoor.valueFinds
open Go.ChangeShapes Go.WideShapes Go.ChangeAt Go.RowKit
set_option linter.unusedVariables false

theorem own : ownKnob Tryz.prog.godebug = none := by kernel_rfl

set_option maxRecDepth 100000 in
theorem lifted (os : Os) (started : os.Started) (H : Type) (enc : TypeId × Value → H) :
    ReturnsInHanded {} Tryz.checked os 3 .any (fun w args => (Rows.valueFindsSpec.pre enc Tryz.prog Tryz.f3 [] false w args ∧ laidMetH Tryz.prog laidL w) ∧ sizedMet enc Tryz.prog Tryz.f3 (OpenSpec.ofChange Rows.valueFindsSpec) false w args)
      (Rows.valueFindsSpec.post enc Tryz.prog Tryz.f3 false true false false) := by
  refine returnsInHanded_of_change_and (C := Tryz.checked) (X := fun w _ => laidMetH Tryz.prog laidL w) (fun _ _ _ hh h => h.of_heap hh) own started (by kernel_rfl) Tryz.func3
    (ChangeSpec.witness_shaped (enc := enc) (C := Tryz.checked) (os := os) (X := fun w _ => laidMetH Tryz.prog laidL w) false (laidWorld os) #[.slice none 0 0, .string ByteArray.empty, .slice none 0 0, .slice none 0 0] 8 (laidWorld_os os) (World.shaped_of_ZipB (by kernel_rfl) (by kernel_rfl)) (by kernel_rfl) (by kernel_rfl) (by kernel_rfl) (laidWorld_met os _)) ?_
  intro W base args ds gs before hval0 hW _ hsz0 hLM _
  have hL := lad_of hLM
  have hsz : (DataW.weightsEach Tryz.prog (Tryz.f3.params.toList ++ Rows.valueFindsSpec.plain.varTypes Tryz.prog) (ds ++ gs)).all (· ≤ reachBytes) = true := hsz0
  clear hsz0
  have hval : ∀ (j : Nat) t v, Tryz.f3.params[j]? = some t → args[j]? = some v → Value.okWide Tryz.prog W .any base t v := hval0
  have hW' := hW
  obtain ⟨p, q, hA0, hV, rfl, hfz, hnd⟩ := hW
  have hA : DataW.TrodAll enc Tryz.prog W 0 (fun _ => true) true Tryz.f3.params.toList args.toList ds p := hA0
  rw [Tryz.params3] at hA hval hsz
  obtain ⟨v0, vs0, d0, ds0, p0, q0, hargs, rfl, rfl, h0, r0⟩ := trodAll_cons hA
  obtain ⟨v1, vs1, d1, ds1, p1, q1, rfl, rfl, rfl, h1, r1⟩ := trodAll_cons r0
  obtain ⟨v2, vs2, d2, ds2, p2, q2, rfl, rfl, rfl, h2, r2⟩ := trodAll_cons r1
  obtain ⟨v3, vs3, d3, ds3, p3, q3, rfl, rfl, rfl, h3, r3⟩ := trodAll_cons r2
  obtain ⟨rfl, rfl, rfl⟩ := trodAll_nil r3
  obtain rfl : args = #[v0, v1, v2, v3] := by cases args; simp_all
  obtain ⟨rfl, rfl⟩ := trodVars_none hV
  simp only [List.append_nil] at hW'
  have hlt0 : ∀ x ∈ p0, x.block < W.heap.size := fun x hx => by simpa using hW'.lt x (by simp [hx])
  obtain ⟨o0, l0, c0, hv0⟩ := okWide_slice Tryz.underlying22 (hval 0 22 v0 rfl rfl)
  subst hv0
  obtain ⟨xs0, kr0, kd0, kc0, km0⟩ := Val.cells_arg h0 Tryz.underlying22
  have kn0 : l0 ≤ 4611686018427387904 := by
    rcases kd0 with rfl | ⟨sp, rfl⟩
    · omega
    · have e1 := sized_slice hsz (j := 0) (t := 22) (e := 43) rfl rfl Tryz.underlying22
      have e2 := reachBytes_lt
      have e3 : Tryz.prog.bytesOf 43 = 40 := by kernel_rfl
      have e4 := kr0.1
      have e5 : (2 : Nat) ^ 47 = 140737488355328 := by decide
      rw [e3] at e1
      simp only [List.length_map] at e1
      omega
  have kx0 : ∀ x ∈ xs0, x.s.length ≤ 140737488355328 := by
    rcases kd0 with rfl | ⟨sp, rfl⟩
    · intro x hx
      rw [List.eq_nil_of_length_eq_zero kr0.1] at hx
      cases hx
    · exact Val.sized_cells hsz (j := 0) (t := 22) rfl rfl Tryz.underlying22
  have k0 := kr0.arg kx0
  obtain ⟨a1, rfl, rfl, rfl, w1⟩ := Go.ChangeMaps.open_string Tryz.underlying9 (hval 1 9 v1 rfl rfl) h1
  have b1 : a1.size ≤ 140737488355328 := by
    have e1 := sized_string hsz (j := 1) (t := 9) rfl rfl
    have e2 := reachBytes_lt
    have e3 : a1.size = a1.data.size := rfl
    have e4 : a1.data.toList.length = a1.data.size := Array.length_toList
    have e5 : (2 : Nat) ^ 47 = 140737488355328 := by decide
    omega
  have hlt2 : ∀ x ∈ p2, x.block < W.heap.size := fun x hx => by simpa using hW'.lt x (by simp [hx])
  obtain ⟨o2, l2, c2, hv2⟩ := okWide_slice Tryz.underlying22 (hval 2 22 v2 rfl rfl)
  subst hv2
  obtain ⟨xs2, kr2, kd2, kc2, km2⟩ := Val.cells_arg h2 Tryz.underlying22
  have kn2 : l2 ≤ 4611686018427387904 := by
    rcases kd2 with rfl | ⟨sp, rfl⟩
    · omega
    · have e1 := sized_slice hsz (j := 2) (t := 22) (e := 43) rfl rfl Tryz.underlying22
      have e2 := reachBytes_lt
      have e3 : Tryz.prog.bytesOf 43 = 40 := by kernel_rfl
      have e4 := kr2.1
      have e5 : (2 : Nat) ^ 47 = 140737488355328 := by decide
      rw [e3] at e1
      simp only [List.length_map] at e1
      omega
  have kx2 : ∀ x ∈ xs2, x.s.length ≤ 140737488355328 := by
    rcases kd2 with rfl | ⟨sp, rfl⟩
    · intro x hx
      rw [List.eq_nil_of_length_eq_zero kr2.1] at hx
      cases hx
    · exact Val.sized_cells hsz (j := 2) (t := 22) rfl rfl Tryz.underlying22
  have k2 := kr2.arg kx2
  have hlt3 : ∀ x ∈ p3, x.block < W.heap.size := fun x hx => by simpa using hW'.lt x (by simp [hx])
  obtain ⟨o3, l3, c3, hv3⟩ := okWide_slice Tryz.underlying23 (hval 3 23 v3 rfl rfl)
  subst hv3
  obtain ⟨xs3, k3, kd3, kc3, km3⟩ := strs_arg h3 hlt3 Tryz.underlying23
  have kn3 : l3 ≤ 4611686018427387904 := by
    rcases kd3 with rfl | ⟨sp, rfl⟩
    · omega
    · have e1 := sized_slice hsz (j := 3) (t := 23) (e := 9) rfl rfl Tryz.underlying23
      have e2 := reachBytes_lt
      have e3 : Tryz.prog.bytesOf 9 = 16 := by kernel_rfl
      have e4 := k3.1.1
      have e5 : (2 : Nat) ^ 47 = 140737488355328 := by decide
      rw [e3] at e1
      simp only [strs, List.length_map] at e1
      omega
  have kx3 : ∀ x ∈ xs3, x.size ≤ 140737488355328 := by
    rcases kd3 with rfl | ⟨sp, rfl⟩
    · intro x hx
      rw [List.eq_nil_of_length_eq_zero k3.1.1] at hx
      cases hx
    · exact sized_strs hsz (j := 3) (t := 23) (e := 9) rfl rfl Tryz.underlying23
  clear hA0 hval0
  refine (Val.law_finds xs0 xs2 a1 xs3 o0 o2 o3 l0 c0 l2 c2 l3 c3 kn0 kn2 kc0 kc2 W hL k0 k2 k3.1).mono fun e W' ⟨he, hg⟩ => ?_
  subst he
  exact ⟨_, rfl, _, _, _, [], _, [], hW', (trodAll_cons_mk (shut_bool Tryz.underlying4 _) trodAll_mk0), (trodAll_cons_mk (Below.trod laidOut (by kernel_rfl) (of_decide_eq_true (by kernel_rfl)) h0 hg hlt0) (trodAll_cons_mk (Go.ChangeMaps.shut_string Tryz.underlying9 w1) (trodAll_cons_mk (Below.trod laidOut (by kernel_rfl) (of_decide_eq_true (by kernel_rfl)) h2 hg hlt2) (trodAll_cons_mk (Below.trod laidOut (by kernel_rfl) (of_decide_eq_true (by kernel_rfl)) h3 hg hlt3) trodAll_mk0)))), rfl, Below.frame hg _, fun h => by cases h⟩

theorem over : Rows.valueFindsRow.holds Tryz.pinned (OpenSpec.ofChange Rows.valueFindsSpec) :=
  OpenClaim.holds_of_wide 3 Tryz.f3 rfl rfl rfl rfl rfl rfl rfl ⟨rfl, rfl, rfl, rfl, rfl⟩ rfl rfl rfl rfl rfl (by kernel_rfl) Tryz.func3 (by kernel_rfl)
    (of_decide_eq_true (by kernel_rfl)) (by unfold Func.isWrapper; first | (rw [if_pos (by decide +kernel)]; kernel_rfl) | (rw [if_neg (by decide +kernel)]; exact ⟨rfl, rfl⟩))
    (fun os started H enc _ => lifted os started H enc)

/-- The statement. -/
theorem proved : Rows.ValueFindsCardSaid :=
  Claim7.holds_tied_plain_at .later [] [.data, .data, .data, .data, .pinned] true (true, "725475d3966a8b5dc074dd9f230e7bd79ac83136b80e560335b66939adcb97c7") false
    over (fun _ h => by cases h) (by kernel_rfl) (fun _ h => by cases h) valueFinds_row_tie rfl ⟨rfl, rfl⟩ (by kernel_rfl) rfl
    (fun f fn hf hfn => by
      obtain rfl : f = 3 := Option.some.inj ((show Tryz.prog.funcNamed "faas/faaslaw06.ValueFinds" = some 3 by kernel_rfl).symm.trans hf) |>.symm
      obtain rfl : fn = Tryz.f3 := (Option.some.inj (Tryz.func3.symm.trans hfn)).symm
      exact ⟨by kernel_rfl, fun j t ht => by
        rw [Tryz.params3] at ht
        have hm : t ∈ [22, 9, 22, 23] := by simpa using Array.mem_of_getElem? ht
        have hall : ([22, 9, 22, 23].all fun u => !Tryz.prog.wantsStandIn u) = true := by kernel_rfl
        exact (show Tryz.prog.wantsStandIn t = false by simpa using List.all_eq_true.1 hall t hm)⟩)
    (by kernel_rfl)
end Go.Proofs.YtegfcmnbljdcpaaGreatDoor.valueFinds
