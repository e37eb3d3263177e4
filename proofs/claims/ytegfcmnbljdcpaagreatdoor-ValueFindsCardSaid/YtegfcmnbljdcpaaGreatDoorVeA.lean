/-
  Layer 6, plainly: what a path finds, a step of it.
-/
import Derived.Test.YtegfcmnbljdcpaaGreatDoorVdZ
import Derived.Test.YtegfcmnbljdcpaaGreatDoorVdW
namespace Go.Proofs.YtegfcmnbljdcpaaGreatDoor
open Go.RowKit Go.ChangeShapes Go.WideShapes
namespace Val

theorem pathR_map {m : M} (h : chk (flat (.map m)) = 0) (p : ByteArray) (ps : List ByteArray) : pathR (flat (.map m)) (p :: ps) = (match getM p (keysM m) (valsM m) with
    | some y => pathR y ps
    | none => ([], 5)) := by
  obtain ⟨t, hp, ht⟩ := chk_ok h
  obtain ⟨hwt, hlf⟩ := par_some.1 hp
  have hwv : wf (.map m) = true := by
    cases hw : wf (.map m) with
    | true => rfl
    | false =>
      rw [chk_nwf hw] at h
      exact absurd h (by decide)
  obtain ⟨rfl, -⟩ := flat_inj (r := []) (q := []) hwv hwt (by rw [hlf])
  have k1 : keyB (flat (.map m)) = keysM m := by unfold keyB; rw [hp]; exact if_pos ht
  have k2 : itmB (flat (.map m)) = valsM m := by unfold itmB; rw [hp]; exact if_pos ht
  have k3 : keyE (flat (.map m)) = 0 := by unfold keyE; rw [if_pos h, hp]
  rw [pathR]
  unfold getE getB
  rw [if_pos k3, k1, k2]
  cases getM p (keysM m) (valsM m) <;> rfl
theorem pathR_no {l : List Cel} {t : V} (h : chk l = 0) (hp : par l = some t) (hm : isM t = false) (p : ByteArray) (ps : List ByteArray) : pathR l (p :: ps) = ([], 7) := by
  have k3 : keyE l = 7 := by
    unfold keyE
    rw [if_pos h, hp]
    cases t <;> first | rfl | cases hm
  have e : getE l p = 7 := by
    unfold getE
    rw [if_neg (by rw [k3]; decide), k3]
  rw [pathR, e, if_neg (by decide)]
end Val
end Go.Proofs.YtegfcmnbljdcpaaGreatDoor
