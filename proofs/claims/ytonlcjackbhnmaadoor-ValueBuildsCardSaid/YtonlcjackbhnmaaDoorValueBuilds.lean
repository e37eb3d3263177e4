/-
  The statement ValueBuildsCardSaid: for every input the law ValueBuilds returns true, and each argument reads afterwards as it read before; the listed tables of the library hold what the program's text lays them as, which the card ties to that text. No condition beyond those of the statement itself.
-/
import Derived.Test.YtonlcjackbhnmaaDoorCards
import Derived.Test.YtonlcjackbhnmaaDoorTie
import Derived.Test.YtonlcjackbhnmaaDoorMA
import Derived.Test.YtonlcjackbhnmaaDoorMC
import Derived.Test.YtonlcjackbhnmaaDoorVdG
import Derived.WalkKit
import Derived.ProofKit
import Derived.OpenShut
import Derived.ChangeMaps5
import Derived.SizedLaws
import Derived.SevenTiedAt
import Derived.Carry
namespace Go.Proofs.YtonlcjackbhnmaaDoor.valueBuilds
open Go.ChangeShapes Go.WideShapes Go.ChangeAt Go.RowKit
set_option linter.unusedVariables false

theorem own : ownKnob Tryd.prog.godebug = none := by kernel_rfl

set_option maxRecDepth 100000 in
theorem lifted (os : Os) (started : os.Started) (H : Type) (enc : TypeId × Value → H) :
    ReturnsInHanded {} Tryd.checked os 4 .any (fun w args => (Rows.valueBuildsSpec.pre enc Tryd.prog Tryd.f4 [] false w args ∧ laidMetH Tryd.prog laidL w) ∧ sizedMet enc Tryd.prog Tryd.f4 (OpenSpec.ofChange Rows.valueBuildsSpec) false w args)
      (Rows.valueBuildsSpec.post enc Tryd.prog Tryd.f4 false true false false) := by
  refine returnsInHanded_of_change_and (C := Tryd.checked) (X := fun w _ => laidMetH Tryd.prog laidL w) (fun _ _ _ hh h => h.of_heap hh) own started (by kernel_rfl) Tryd.func4
    (ChangeSpec.witness_shaped (enc := enc) (C := Tryd.checked) (os := os) (X := fun w _ => laidMetH Tryd.prog laidL w) false (laidWorld os) #[.bool false, .int .i64 0, .string ByteArray.empty, .slice none 0 0, .slice none 0 0] 8 (laidWorld_os os) (World.shaped_of_ZipB (by kernel_rfl) (by kernel_rfl)) (by kernel_rfl) (by kernel_rfl) (by kernel_rfl) (laidWorld_met os _)) ?_
  intro W base args ds gs before hval0 hW _ hsz0 hLM _
  have hL := lad_of hLM
  have hsz : (DataW.weightsEach Tryd.prog (Tryd.f4.params.toList ++ Rows.valueBuildsSpec.plain.varTypes Tryd.prog) (ds ++ gs)).all (· ≤ reachBytes) = true := hsz0
  clear hsz0
  have hval : ∀ (j : Nat) t v, Tryd.f4.params[j]? = some t → args[j]? = some v → Value.okWide Tryd.prog W .any base t v := hval0
  have hW' := hW
  obtain ⟨p, q, hA0, hV, rfl, hfz, hnd⟩ := hW
  have hA : DataW.TrodAll enc Tryd.prog W 0 (fun _ => true) true Tryd.f4.params.toList args.toList ds p := hA0
  rw [Tryd.params4] at hA hval hsz
  obtain ⟨v0, vs0, d0, ds0, p0, q0, hargs, rfl, rfl, h0, r0⟩ := trodAll_cons hA
  obtain ⟨v1, vs1, d1, ds1, p1, q1, rfl, rfl, rfl, h1, r1⟩ := trodAll_cons r0
  obtain ⟨v2, vs2, d2, ds2, p2, q2, rfl, rfl, rfl, h2, r2⟩ := trodAll_cons r1
  obtain ⟨v3, vs3, d3, ds3, p3, q3, rfl, rfl, rfl, h3, r3⟩ := trodAll_cons r2
  obtain ⟨v4, vs4, d4, ds4, p4, q4, rfl, rfl, rfl, h4, r4⟩ := trodAll_cons r3
  obtain ⟨rfl, rfl, rfl⟩ := trodAll_nil r4
  obtain rfl : args = #[v0, v1, v2, v3, v4] := by cases args; simp_all
  obtain ⟨rfl, rfl⟩ := trodVars_none hV
  simp only [List.append_nil] at hW'
  obtain ⟨a0, rfl, rfl, rfl⟩ := open_bool Tryd.underlying4 (hval 0 4 v0 rfl rfl) h0
  obtain ⟨a1, rfl, rfl, rfl, w1⟩ := open_int Tryd.underlying3 (hval 1 3 v1 rfl rfl) h1
  obtain ⟨a2, rfl, rfl, rfl, w2⟩ := Go.ChangeMaps.open_string Tryd.underlying9 (hval 2 9 v2 rfl rfl) h2
  have b2 : a2.size ≤ 140737488355328 := by
    have e1 := sized_string hsz (j := 2) (t := 9) rfl rfl
    have e2 := reachBytes_lt
    have e3 : a2.size = a2.data.size := rfl
    have e4 : a2.data.toList.length = a2.data.size := Array.length_toList
    have e5 : (2 : Nat) ^ 47 = 140737488355328 := by decide
    omega
  have hlt3 : ∀ x ∈ p3, x.block < W.heap.size := fun x hx => by simpa using hW'.lt x (by simp [hx])
  obtain ⟨o3, l3, c3, hv3⟩ := okWide_slice Tryd.underlying30 (hval 3 30 v3 rfl rfl)
  subst hv3
  obtain ⟨xs3, k3, kd3, kc3, km3⟩ := strs_arg h3 hlt3 Tryd.underlying30
  have kn3 : l3 ≤ 4611686018427387904 := by
    rcases kd3 with rfl | ⟨sp, rfl⟩
    · omega
    · have e1 := sized_slice hsz (j := 3) (t := 30) (e := 9) rfl rfl Tryd.underlying30
      have e2 := reachBytes_lt
      have e3 : Tryd.prog.bytesOf 9 = 16 := by kernel_rfl
      have e4 := k3.1.1
      have e5 : (2 : Nat) ^ 47 = 140737488355328 := by decide
      rw [e3] at e1
      simp only [strs, List.length_map] at e1
      omega
  have kx3 : ∀ x ∈ xs3, x.size ≤ 140737488355328 := by
    rcases kd3 with rfl | ⟨sp, rfl⟩
    · intro x hx
      rw [List.eq_nil_of_length_eq_zero k3.1.1] at hx
      cases hx
    · exact sized_strs hsz (j := 3) (t := 30) (e := 9) rfl rfl Tryd.underlying30
  have hlt4 : ∀ x ∈ p4, x.block < W.heap.size := fun x hx => by simpa using hW'.lt x (by simp [hx])
  obtain ⟨o4, l4, c4, hv4⟩ := okWide_slice Tryd.underlying31 (hval 4 31 v4 rfl rfl)
  subst hv4
  obtain ⟨xs4, k4, kn4⟩ := Val.lists_arg h4 Tryd.underlying31 (fun e sp he => by subst he; exact ⟨sized_slice hsz (j := 4) (t := 31) (e := 22) rfl rfl Tryd.underlying31, Val.sized_lists hsz (j := 4) (t := 31) rfl rfl Tryd.underlying31⟩)
  clear hA0 hval0
  refine (Val.law_builds a0 a1 (wf_i64 w1) a2 b2 xs3 xs4 o3 o4 l3 c3 l4 c4 W hL k3.1 k4).mono fun e W' ⟨he, hg⟩ => ?_
  subst he
  exact ⟨_, rfl, _, _, _, [], _, [], hW', (trodAll_cons_mk (shut_bool Tryd.underlying4 _) trodAll_mk0), (trodAll_cons_mk (shut_bool Tryd.underlying4 _) (trodAll_cons_mk (shut_int Tryd.underlying3 w1) (trodAll_cons_mk (Go.ChangeMaps.shut_string Tryd.underlying9 w2) (trodAll_cons_mk (Below.trod laidOut (by kernel_rfl) (of_decide_eq_true (by kernel_rfl)) h3 hg hlt3) (trodAll_cons_mk (Below.trod laidOut (by kernel_rfl) (of_decide_eq_true (by kernel_rfl)) h4 hg hlt4) trodAll_mk0))))), rfl, Below.frame hg _, fun h => by cases h⟩

theorem over : Rows.valueBuildsRow.holds Tryd.pinned (OpenSpec.ofChange Rows.valueBuildsSpec) :=
  OpenClaim.holds_of_wide 4 Tryd.f4 rfl rfl rfl rfl rfl rfl rfl ⟨rfl, rfl, rfl, rfl, rfl⟩ rfl rfl rfl rfl rfl (by kernel_rfl) Tryd.func4 (by kernel_rfl)
    (of_decide_eq_true (by kernel_rfl)) (by unfold Func.isWrapper; first | (rw [if_pos (by decide +kernel)]; kernel_rfl) | (rw [if_neg (by decide +kernel)]; exact ⟨rfl, rfl⟩))
    (fun os started H enc _ => lifted os started H enc)

/-- The statement. -/
theorem proved : Rows.ValueBuildsCardSaid :=
  Claim7.holds_tied_plain_at .later [] [.data, .data, .data, .data, .pinned] true (true, "00198bc3180fef9cdff07bae1102dd23387d98a98df7a223c630e70db83a1493") false
    over (fun _ h => by cases h) (by kernel_rfl) (fun _ h => by cases h) valueBuilds_row_tie rfl ⟨rfl, rfl⟩ (by kernel_rfl) rfl
    (fun f fn hf hfn => by
      obtain rfl : f = 4 := Option.some.inj ((show Tryd.prog.funcNamed "faas/faaslaw06.ValueBuilds" = some 4 by kernel_rfl).symm.trans hf) |>.symm
      obtain rfl : fn = Tryd.f4 := (Option.some.inj (Tryd.func4.symm.trans hfn)).symm
      exact ⟨by kernel_rfl, fun j t ht => by
        rw [Tryd.params4] at ht
        have hm : t ∈ [4, 3, 9, 30, 31] := by simpa using Array.mem_of_getElem? ht
        have hall : ([4, 3, 9, 30, 31].all fun u => !Tryd.prog.wantsStandIn u) = true := by kernel_rfl
        exact (show Tryd.prog.wantsStandIn t = false by simpa using List.all_eq_true.1 hall t hm)⟩)
    (by kernel_rfl)
end Go.Proofs.YtonlcjackbhnmaaDoor.valueBuilds
