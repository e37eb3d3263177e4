/-
  The statement ValueRoundTripsCardSaid: for every input the law ValueRoundTrips returns true, and each argument reads afterwards as it read before; the listed tables of the library hold what the program's text lays them as, which the card ties to that text. No condition beyond those of the statement itself.
-/
import Derived.Test.YtegfcmnbljdcpaaDoorCards
import Derived.Test.YtegfcmnbljdcpaaDoorTie
import Derived.Test.YtegfcmnbljdcpaaDoorMA
import Derived.Test.YtegfcmnbljdcpaaDoorMC
import Derived.Test.YtegfcmnbljdcpaaDoorVfG
import Derived.WalkKit
import Derived.ProofKit
import Derived.OpenShut
import Derived.ChangeMaps5
import Derived.SizedLaws
import Derived.SevenTiedAt
import Derived.Carry
namespace Go.Proofs.YtegfcmnbljdcpaaDoor.valueRoundTrips
open Go.ChangeShapes Go.WideShapes Go.ChangeAt Go.RowKit
set_option linter.unusedVariables false

theorem own : ownKnob Tryd.prog.godebug = none := by kernel_rfl

set_option maxRecDepth 100000 in
theorem lifted (os : Os) (started : os.Started) (H : Type) (enc : TypeId × Value → H) :
    ReturnsInHanded {} Tryd.checked os 3 .any (fun w args => (Rows.valueRoundTripsSpec.pre enc Tryd.prog Tryd.f3 [] false w args ∧ laidMetH Tryd.prog laidS w) ∧ sizedMet enc Tryd.prog Tryd.f3 (OpenSpec.ofChange Rows.valueRoundTripsSpec) false w args)
      (Rows.valueRoundTripsSpec.post enc Tryd.prog Tryd.f3 false true false false) := by
  refine returnsInHanded_of_change_and (C := Tryd.checked) (X := fun w _ => laidMetH Tryd.prog laidS w) (fun _ _ _ hh h => h.of_heap hh) own started (by kernel_rfl) Tryd.func3
    (ChangeSpec.witness_shaped (enc := enc) (C := Tryd.checked) (os := os) (X := fun w _ => laidMetH Tryd.prog laidS w) false (laidWorldS os) #[.slice none 0 0, .string ByteArray.empty, .string ByteArray.empty, .string ByteArray.empty, .slice none 0 0] 8 (laidWorldS_os os) (World.shaped_of_ZipB (by kernel_rfl) (by kernel_rfl)) (by kernel_rfl) (by kernel_rfl) (by kernel_rfl) (laidWorldS_met os _)) ?_
  intro W base args ds gs before hval0 hW _ hsz0 hLM _
  have hsz : (DataW.weightsEach Tryd.prog (Tryd.f3.params.toList ++ Rows.valueRoundTripsSpec.plain.varTypes Tryd.prog) (ds ++ gs)).all (· ≤ reachBytes) = true := hsz0
  clear hsz0
  have hval : ∀ (j : Nat) t v, Tryd.f3.params[j]? = some t → args[j]? = some v → Value.okWide Tryd.prog W .any base t v := hval0
  have hW' := hW
  obtain ⟨p, q, hA0, hV, rfl, hfz, hnd⟩ := hW
  have hA : DataW.TrodAll enc Tryd.prog W 0 (fun _ => true) true Tryd.f3.params.toList args.toList ds p := hA0
  rw [Tryd.params3] at hA hval hsz
  obtain ⟨v0, vs0, d0, ds0, p0, q0, hargs, rfl, rfl, h0, r0⟩ := trodAll_cons hA
  obtain ⟨v1, vs1, d1, ds1, p1, q1, rfl, rfl, rfl, h1, r1⟩ := trodAll_cons r0
  obtain ⟨v2, vs2, d2, ds2, p2, q2, rfl, rfl, rfl, h2, r2⟩ := trodAll_cons r1
  obtain ⟨v3, vs3, d3, ds3, p3, q3, rfl, rfl, rfl, h3, r3⟩ := trodAll_cons r2
  obtain ⟨v4, vs4, d4, ds4, p4, q4, rfl, rfl, rfl, h4, r4⟩ := trodAll_cons r3
  obtain ⟨rfl, rfl, rfl⟩ := trodAll_nil r4
  obtain rfl : args = #[v0, v1, v2, v3, v4] := by cases args; simp_all
  obtain ⟨rfl, rfl⟩ := trodVars_none hV
  simp only [List.append_nil] at hW'
  have hlt0 : ∀ x ∈ p0, x.block < W.heap.size := fun x hx => by simpa using hW'.lt x (by simp [hx])
  obtain ⟨o0, l0, c0, hv0⟩ := okWide_slice Tryd.underlying22 (hval 0 22 v0 rfl rfl)
  subst hv0
  obtain ⟨xs0, kr0, kd0, kc0, km0⟩ := Val.cells_arg h0 Tryd.underlying22
  have kn0 : l0 ≤ 4611686018427387904 := by
    rcases kd0 with rfl | ⟨sp, rfl⟩
    · omega
    · have e1 := sized_slice hsz (j := 0) (t := 22) (e := 37) rfl rfl Tryd.underlying22
      have e2 := reachBytes_lt
      have e3 : Tryd.prog.bytesOf 37 = 40 := by kernel_rfl
      have e4 := kr0.1
      have e5 : (2 : Nat) ^ 47 = 140737488355328 := by decide
      rw [e3] at e1
      simp only [List.length_map] at e1
      omega
  have kx0 : ∀ x ∈ xs0, x.s.length ≤ 140737488355328 := by
    rcases kd0 with rfl | ⟨sp, rfl⟩
    · intro x hx
      rw [List.eq_nil_of_length_eq_zero kr0.1] at hx
      cases hx
    · exact Val.sized_cells hsz (j := 0) (t := 22) rfl rfl Tryd.underlying22
  have k0 := kr0.arg kx0
  obtain ⟨a1, rfl, rfl, rfl, w1⟩ := Go.ChangeMaps.open_string Tryd.underlying9 (hval 1 9 v1 rfl rfl) h1
  have b1 : a1.size ≤ 140737488355328 := by
    have e1 := sized_string hsz (j := 1) (t := 9) rfl rfl
    have e2 := reachBytes_lt
    have e3 : a1.size = a1.data.size := rfl
    have e4 : a1.data.toList.length = a1.data.size := Array.length_toList
    have e5 : (2 : Nat) ^ 47 = 140737488355328 := by decide
    omega
  obtain ⟨a2, rfl, rfl, rfl, w2⟩ := Go.ChangeMaps.open_string Tryd.underlying9 (hval 2 9 v2 rfl rfl) h2
  have b2 : a2.size ≤ 140737488355328 := by
    have e1 := sized_string hsz (j := 2) (t := 9) rfl rfl
    have e2 := reachBytes_lt
    have e3 : a2.size = a2.data.size := rfl
    have e4 : a2.data.toList.length = a2.data.size := Array.length_toList
    have e5 : (2 : Nat) ^ 47 = 140737488355328 := by decide
    omega
  obtain ⟨a3, rfl, rfl, rfl, w3⟩ := Go.ChangeMaps.open_string Tryd.underlying9 (hval 3 9 v3 rfl rfl) h3
  have b3 : a3.size ≤ 140737488355328 := by
    have e1 := sized_string hsz (j := 3) (t := 9) rfl rfl
    have e2 := reachBytes_lt
    have e3 : a3.size = a3.data.size := rfl
    have e4 : a3.data.toList.length = a3.data.size := Array.length_toList
    have e5 : (2 : Nat) ^ 47 = 140737488355328 := by decide
    omega
  have hlt4 : ∀ x ∈ p4, x.block < W.heap.size := fun x hx => by simpa using hW'.lt x (by simp [hx])
  obtain ⟨o4, l4, c4, hv4⟩ := okWide_slice Tryd.underlying22 (hval 4 22 v4 rfl rfl)
  subst hv4
  obtain ⟨xs4, kr4, kd4, kc4, km4⟩ := Val.cells_arg h4 Tryd.underlying22
  have kn4 : l4 ≤ 4611686018427387904 := by
    rcases kd4 with rfl | ⟨sp, rfl⟩
    · omega
    · have e1 := sized_slice hsz (j := 4) (t := 22) (e := 37) rfl rfl Tryd.underlying22
      have e2 := reachBytes_lt
      have e3 : Tryd.prog.bytesOf 37 = 40 := by kernel_rfl
      have e4 := kr4.1
      have e5 : (2 : Nat) ^ 47 = 140737488355328 := by decide
      rw [e3] at e1
      simp only [List.length_map] at e1
      omega
  have kx4 : ∀ x ∈ xs4, x.s.length ≤ 140737488355328 := by
    rcases kd4 with rfl | ⟨sp, rfl⟩
    · intro x hx
      rw [List.eq_nil_of_length_eq_zero kr4.1] at hx
      cases hx
    · exact Val.sized_cells hsz (j := 4) (t := 22) rfl rfl Tryd.underlying22
  have k4 := kr4.arg kx4
  clear hA0 hval0
  refine (Val.law_roundTrips xs0 xs4 a1 a2 a3 o0 o4 l0 c0 l4 c4 kn0 kn4 kc0 kc4 W k0 k4).mono fun e W' ⟨he, hg⟩ => ?_
  subst he
  exact ⟨_, rfl, _, _, _, [], _, [], hW', (trodAll_cons_mk (shut_bool Tryd.underlying4 _) trodAll_mk0), (trodAll_cons_mk (Below.trod laidOut (by kernel_rfl) (of_decide_eq_true (by kernel_rfl)) h0 hg hlt0) (trodAll_cons_mk (Go.ChangeMaps.shut_string Tryd.underlying9 w1) (trodAll_cons_mk (Go.ChangeMaps.shut_string Tryd.underlying9 w2) (trodAll_cons_mk (Go.ChangeMaps.shut_string Tryd.underlying9 w3) (trodAll_cons_mk (Below.trod laidOut (by kernel_rfl) (of_decide_eq_true (by kernel_rfl)) h4 hg hlt4) trodAll_mk0))))), rfl, Below.frame hg _, fun h => by cases h⟩

theorem over : Rows.valueRoundTripsRow.holds Tryd.pinned (OpenSpec.ofChange Rows.valueRoundTripsSpec) :=
  OpenClaim.holds_of_wide 3 Tryd.f3 rfl rfl rfl rfl rfl rfl rfl ⟨rfl, rfl, rfl, rfl, rfl⟩ rfl rfl rfl rfl rfl (by kernel_rfl) Tryd.func3 (by kernel_rfl)
    (of_decide_eq_true (by kernel_rfl)) (by unfold Func.isWrapper; first | (rw [if_pos (by decide +kernel)]; kernel_rfl) | (rw [if_neg (by decide +kernel)]; exact ⟨rfl, rfl⟩))
    (fun os started H enc _ => lifted os started H enc)

/-- The statement. -/
theorem proved : Rows.ValueRoundTripsCardSaid :=
  Claim7.holds_tied_plain_at .later [] [.data, .pinned] true (true, "fef712b0467fe5fe2290a681943023a3446deef29d26e6973dd96b61f1d68b04") false
    over (fun _ h => by cases h) (by kernel_rfl) (fun _ h => by cases h) valueRoundTrips_row_tie rfl ⟨rfl, rfl⟩ (by kernel_rfl) rfl
    (fun f fn hf hfn => by
      obtain rfl : f = 3 := Option.some.inj ((show Tryd.prog.funcNamed "faas/faaslaw06.ValueRoundTrips" = some 3 by kernel_rfl).symm.trans hf) |>.symm
      obtain rfl : fn = Tryd.f3 := (Option.some.inj (Tryd.func3.symm.trans hfn)).symm
      exact ⟨by kernel_rfl, fun j t ht => by
        rw [Tryd.params3] at ht
        have hm : t ∈ [22, 9, 9, 9, 22] := by simpa using Array.mem_of_getElem? ht
        have hall : ([22, 9, 9, 9, 22].all fun u => !Tryd.prog.wantsStandIn u) = true := by kernel_rfl
        exact (show Tryd.prog.wantsStandIn t = false by simpa using List.all_eq_true.1 hall t hm)⟩)
    (by kernel_rfl)
end Go.Proofs.YtegfcmnbljdcpaaDoor.valueRoundTrips
