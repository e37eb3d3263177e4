/-
  Layer 6, plainly: Get behind Put.
-/
import Derived.Test.YtegfcmnbljdcpaaGreatDoorVdX
namespace Go.Proofs.YtegfcmnbljdcpaaGreatDoor
open Go.RowKit Go.ChangeShapes Go.WideShapes
namespace Val

theorem get_put {key : ByteArray} {x : List Cel} : ∀ (d : Bool) (ks : List ByteArray) (vs : List (List Cel)), d = false → getM key ((putL key x d ks vs).map Prod.fst) ((putL key x d ks vs).map Prod.snd) = some x
  | d, k :: ks, v :: vs, hd => by
    subst hd
    rw [putL]
    by_cases h : (false : Bool) = false ∧ ¬ k.toList < key.toList
    · rw [if_pos h]
      simp [getM]
    · rw [if_neg h]
      have hlt : k.toList < key.toList := by
        by_cases g : k.toList < key.toList
        · exact g
        · exact absurd ⟨rfl, g⟩ h
      have hne : ¬ k = key := fun e => by rw [e] at hlt; exact List.lt_irrefl _ hlt
      rw [if_neg hne, List.map_cons, List.map_cons, getM, if_neg hne]
      exact get_put false ks vs rfl
  | d, [], vs, hd => by subst hd; rw [putL_nil]; simp [getM]
  | d, k :: ks, [], hd => by
    subst hd
    rw [putL]
    · simp [getM]
    all_goals simp
theorem get_other {key other : ByteArray} {x : List Cel} (ho : ¬ key = other) : ∀ (d : Bool) (ks : List ByteArray) (vs : List (List Cel)), getM other ((putL key x d ks vs).map Prod.fst) ((putL key x d ks vs).map Prod.snd) = getM other ks vs
  | d, k :: ks, v :: vs => by
    have key1 : ∀ d', getM other (((if k = key then putL key x d' ks vs else (k, v) :: putL key x d' ks vs)).map Prod.fst) (((if k = key then putL key x d' ks vs else (k, v) :: putL key x d' ks vs)).map Prod.snd) = getM other (k :: ks) (v :: vs) := fun d' => by
      by_cases hk : k = key
      · rw [if_pos hk, getM, if_neg (fun e => ho (by rw [← hk, e]))]
        exact get_other ho d' ks vs
      · rw [if_neg hk, List.map_cons, List.map_cons, getM, getM]
        by_cases h2 : k = other
        · rw [if_pos h2, if_pos h2]
        · rw [if_neg h2, if_neg h2]
          exact get_other ho d' ks vs
    rw [putL]
    by_cases h : d = false ∧ ¬ k.toList < key.toList
    · rw [if_pos h, List.map_cons, List.map_cons, getM, if_neg ho]
      exact key1 true
    · rw [if_neg h]
      exact key1 d
  | d, [], vs => by
    rw [putL_nil]
    cases d <;> cases vs <;> simp [getM, ho]
  | d, k :: ks, [] => by
    rw [putL]
    · cases d <;> simp [getM, ho]
    all_goals simp
theorem prs_inj : ∀ (m : M) (q : Option Txt) (ks : List ByteArray) (vs : List (List Cel)), wfM q m = true → ks.length = vs.length → (∀ v ∈ vs, ∃ t, wf t = true ∧ v = flat t) → prsC ks vs = flatM m → keysM m = ks ∧ valsM m = vs
  | .nil, q, [], [], _, _, _, _ => ⟨rfl, rfl⟩
  | .nil, q, k :: ks, v :: vs, _, _, _, h => by simp [prsC, pairC, flatM] at h
  | .cons a b r, q, [], [], _, _, _, h => by simp [prsC, flatM] at h
  | .cons a b r, q, k :: ks, v :: vs, hw, hl, hv, h => by
    obtain ⟨t, ht, rfl⟩ := hv v (List.mem_cons_self ..)
    simp only [prsC, List.zip_cons_cons, List.flatMap_cons, pairC, flatM, List.cons_append, List.cons.injEq, Cel.mk.injEq, true_and, and_true] at h
    obtain ⟨h1, h2⟩ := h
    rw [wfM] at hw
    simp only [Bool.and_eq_true] at hw
    obtain ⟨⟨⟨-, -⟩, hb⟩, hr⟩ := hw
    obtain ⟨rfl, h3⟩ := flat_inj ht hb h2
    obtain ⟨g1, g2⟩ := prs_inj r (some a) ks vs hr (by simpa using hl) (fun v hv' => hv v (List.mem_cons_of_mem _ hv')) h3
    refine ⟨?_, by rw [valsM, g2]⟩
    rw [keysM, g1, ← h1, str_back]
  | _, _, [], _ :: _, _, hl, _, _ => by simp at hl
  | _, _, _ :: _, [], _, hl, _, _ => by simp at hl
/-- What Put answers, plainly: Get of the key is the value, Get of another key is as before. -/
theorem put_get {l x : List Cel} {key : ByteArray} (h : putE l key x = 0) : chk (putB l key x) = 0 ∧ getE (putB l key x) key = 0 ∧ getB (putB l key x) key = x ∧ ∀ other, ¬ other = key → getE (putB l key x) other = getE l other ∧ getB (putB l key x) other = getB l other := by
  have hk : keyE l = 0 := by
    by_cases g : keyE l = 0
    · exact g
    · unfold putE at h; rw [if_neg g] at h; exact h
  have hx : chk x = 0 := by
    by_cases g : chk x = 0
    · exact g
    · unfold putE at h; rw [if_pos hk, if_neg g] at h; exact h
  have hm : mapE (putN l key x) (putV l key x) = 0 := by
    unfold putE at h; rw [if_pos hk, if_pos hx] at h; exact h
  have hb : putB l key x = mapB (putN l key x) (putV l key x) := by
    unfold putB; rw [if_pos hk, if_pos hx]
  have hlen : (putN l key x).length = (putV l key x).length := by unfold putN putV; simp
  have hf : firstE (putV l key x) = 0 := by
    by_cases g : firstE (putV l key x) = 0
    · exact g
    · unfold mapE at hm; rw [if_pos hlen, if_neg g] at hm; exact hm
  have hc : chk (mapC (putN l key x) (putV l key x)) = 0 := by
    unfold mapE at hm; rw [if_pos hlen, if_pos hf] at hm; exact hm
  have hb2 : putB l key x = mapC (putN l key x) (putV l key x) := by
    rw [hb]; unfold mapB; rw [if_pos hlen, if_pos hf]; unfold chkd; rw [if_pos hc]
  obtain ⟨t, hp, ht⟩ := chk_ok hc
  obtain ⟨hw, hlf⟩ := par_some.1 hp
  have hall : ∀ v ∈ putV l key x, ∃ t, wf t = true ∧ v = flat t := by
    have : ∀ vs : List (List Cel), firstE vs = 0 → ∀ v ∈ vs, ∃ t, wf t = true ∧ v = flat t := fun vs => by
      induction vs with
      | nil => intro _ v hv; cases hv
      | cons a vs ih =>
        intro hf v hv
        rw [firstE] at hf
        by_cases g : chk a = 0
        · rw [if_pos g] at hf
          rcases List.mem_cons.1 hv with rfl | hv
          · obtain ⟨t, hp, _⟩ := chk_ok g
            obtain ⟨hw, hl⟩ := par_some.1 hp
            exact ⟨t, hw, hl⟩
          · exact ih hf v hv
        · rw [if_neg g] at hf
          exact absurd hf g
    exact this _ hf
  cases t with
  | map m =>
    rw [mapC] at hlf
    simp only [flat, List.cons.injEq] at hlf
    rw [wf] at hw
    obtain ⟨g1, g2⟩ := prs_inj m none _ _ hw hlen hall hlf.2
    have k1 : keyB (putB l key x) = putN l key x := by
      rw [hb2]; unfold keyB; rw [hp]; simp only; rw [if_pos ht, g1]
    have k2 : itmB (putB l key x) = putV l key x := by
      rw [hb2]; unfold itmB; rw [hp]; simp only; rw [if_pos ht]; show valsM m = _; rw [g2]
    have k3 : keyE (putB l key x) = 0 := by
      rw [hb2]; unfold keyE; rw [if_pos hc, hp]
    have e1 : getM key (keyB (putB l key x)) (itmB (putB l key x)) = some x := by
      rw [k1, k2]; exact get_put false _ _ rfl
    refine ⟨by rw [hb2]; exact hc, ?_, ?_, fun other ho => ?_⟩
    · unfold getE; rw [if_pos k3, e1]
    · unfold getB; rw [e1]; rfl
    · have e2 : getM other (keyB (putB l key x)) (itmB (putB l key x)) = getM other (keyB l) (itmB l) := by
        rw [k1, k2]; exact get_other (fun e => ho e.symm) false _ _
      exact ⟨by unfold getE; rw [if_pos k3, if_pos hk, e2], by unfold getB; rw [e2]⟩
  | _ =>
    rw [mapC] at hlf
    simp [flat] at hlf
end Val
end Go.Proofs.YtegfcmnbljdcpaaGreatDoor
