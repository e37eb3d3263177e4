/-
  Layer 6, plainly: what a valid map holds is valid.
-/
import Derived.Test.YtegfcmnbljdcpaaGreatDoorVdY
namespace Go.Proofs.YtegfcmnbljdcpaaGreatDoor
open Go.RowKit Go.ChangeShapes Go.WideShapes
namespace Val

theorem valsM_sub : ∀ (m : M) (y : List Cel), y ∈ valsM m → ∃ u, y = flat u ∧ (∀ q, wfM q m = true → wf u = true) ∧ (∀ c ∈ flat u, c ∈ flatM m) ∧ (flat u).length ≤ (flatM m).length ∧ lvl u ≤ lvlM m ∧ (text u).length ≤ (moreM m).length
  | .nil, y, h => by cases h
  | .cons k v r, y, h => by
    rw [valsM] at h
    rcases List.mem_cons.1 h with rfl | h
    · refine ⟨v, rfl, fun q hw => ?_, fun c hc => ?_, ?_, ?_, ?_⟩
      · rw [wfM] at hw
        simp only [Bool.and_eq_true] at hw
        exact hw.1.2
      · rw [flatM]
        exact List.mem_cons_of_mem _ (List.mem_append_left _ hc)
      · rw [flatM, List.length_cons, List.length_append]
        omega
      · rw [lvlM]
        omega
      · rw [moreM]
        simp only [List.length_cons, List.length_append]
        omega
    · obtain ⟨u, rfl, h1, h2, h3, h4, h5⟩ := valsM_sub r y h
      refine ⟨u, rfl, fun q hw => ?_, fun c hc => ?_, ?_, ?_, ?_⟩
      · rw [wfM] at hw
        simp only [Bool.and_eq_true] at hw
        exact h1 _ hw.2
      · rw [flatM]
        exact List.mem_cons_of_mem _ (List.mem_append_right _ (h2 c hc))
      · rw [flatM, List.length_cons, List.length_append]
        omega
      · rw [lvlM]
        omega
      · rw [moreM]
        simp only [List.length_cons, List.length_append]
        omega
theorem more_le (m : M) : (moreM m).length ≤ (textM m).length + 1 := by
  cases m with
  | nil => exact Nat.zero_le _
  | cons k v r => rw [moreM, textM]; simp
theorem chk_sub {m : M} (h : chk (flat (.map m)) = 0) {y : List Cel} (hy : y ∈ valsM m) : chk y = 0 := by
  obtain ⟨t, hp, ht⟩ := chk_ok h
  obtain ⟨hwt, hlf⟩ := par_some.1 hp
  have hwv : wf (.map m) = true := by
    cases hw : wf (.map m) with
    | true => rfl
    | false =>
      rw [chk_nwf hw] at h
      exact absurd h (by decide)
  obtain ⟨rfl, -⟩ := flat_inj (r := []) (q := []) hwv hwt (by rw [hlf])
  obtain ⟨u, rfl, h1, h2, h3, h4, h5⟩ := valsM_sub m y hy
  have hwu : wf u = true := h1 none (by rw [wf] at hwv; exact hwv)
  have hm := more_le m
  unfold chk
  rw [par_some.2 ⟨hwu, rfl⟩]
  show chkT (flat u) u = 0
  have hmem : ∀ c ∈ flat u, c ∈ flat (.map m) := fun c hc => by
    rw [flat]
    exact List.mem_cons_of_mem _ (h2 c hc)
  have hl : (flat (.map m)).length = (flatM m).length + 1 := by rw [flat, List.length_cons]
  have htx : (text (.map m)).length = (textM m).length + 2 := by rw [text]; simp
  have hlv : lvlM m < lvl (.map m) := by
    rw [lvl]
    omega
  unfold chkT at ht ⊢
  have a1 : ¬ (flat (.map m)).all rngC = false := fun e => by rw [if_pos e] at ht; cases ht
  rw [if_neg a1] at ht
  have a2 : ¬ 200 < (flat (.map m)).length := fun e => by rw [if_pos e] at ht; cases ht
  rw [if_neg a2] at ht
  have a3 : ¬ 8 < lvl (.map m) := fun e => by rw [if_pos e] at ht; cases ht
  rw [if_neg a3] at ht
  have a4 : ¬ (flat (.map m)).all strC = false := fun e => by rw [if_pos e] at ht; cases ht
  rw [if_neg a4] at ht
  have a5 : ¬ 4000 < (text (.map m)).length := fun e => by rw [if_pos e] at ht; cases ht
  have sub : ∀ f : Cel → Bool, ¬ (flat (.map m)).all f = false → ¬ (flat u).all f = false := fun f hf e => by
    have hf2 : (flat (.map m)).all f = true := by simpa using hf
    have ha := List.all_eq_true.1 hf2
    have : (flat u).all f = true := List.all_eq_true.2 fun c hc => ha c (hmem c hc)
    rw [this] at e
    cases e
  rw [if_neg (sub rngC a1), if_neg (by omega), if_neg (by omega), if_neg (sub strC a4), if_neg (by omega)]
end Val
end Go.Proofs.YtegfcmnbljdcpaaGreatDoor
